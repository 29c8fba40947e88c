/-
  TextSpelt, walked.
-/
import Derived.Test.YtjophmgpknpboaaDoorSpeltWords
import Derived.Deep.RegionHeld3
import Derived.Deep.DeepCutAuto
import Derived.StillTailTactics
namespace Go.Proofs.YtjophmgpknpboaaDoor
open Go.RowKit
set_option linter.unusedVariables false
set_option linter.unusedSimpArgs false

/-- May a byte stand as it is between quotes q? -/
def plB (q x : UInt8) : Bool := decide (32 ≤ (x.toNat : Int)) && ((x.toNat : Int) != 92) && ((x.toNat : Int) != (q.toNat : Int))
theorem SP.plB_ {q x : UInt8} (h : plB q x = true) : SP (q.toNat : Int) [x] [x] := by
  unfold plB at h
  simp only [Bool.and_eq_true, decide_eq_true_eq, bne_iff_ne, ne_eq] at h
  exact SP.plain x (by omega) h.1.2 h.2
structure SpR (w : World) (q : UInt8) (L : List UInt8) (i : Nat) (sb : ByteArray) (wr : World) : Prop where
  ex : ∃ p : List UInt8, sb.data.toList = q :: p ∧ p.length ≤ 4 * i ∧ SP (q.toNat : Int) (L.take i) p
  bw : Below w.heap.size w wr
theorem SpR.size {w wr : World} {q : UInt8} {L : List UInt8} {i : Nat} {sb : ByteArray} (h : SpR w q L i sb wr) : 1 ≤ sb.size ∧ sb.size ≤ 4 * i + 1 := by
  obtain ⟨p, h1, h2, _⟩ := h.ex
  have h3 : sb.data.toList.length = sb.size := by simp
  rw [h1] at h3
  simp only [List.length_cons] at h3
  omega
theorem SpR.next {w wr W : World} {q : UInt8} {L : List UInt8} {i : Nat} {sb sb' : ByteArray} {x : UInt8} {t : List UInt8} (h : SpR w q L i sb wr) (hx : L.take (i + 1) = L.take i ++ [x]) (ht : SP (q.toNat : Int) [x] t) (hl : t.length ≤ 4)
    (hs : sb'.data.toList = sb.data.toList ++ t) (hb : Below w.heap.size w W) : SpR w q L (i + 1) sb' W := by
  obtain ⟨p, h1, h2, h3⟩ := h.ex
  refine ⟨⟨p ++ t, by rw [hs, h1]; rfl, by simp; omega, ?_⟩, hb⟩
  rw [hx]
  exact h3.app ht

set_option maxRecDepth 100000 in
set_option maxHeartbeats 1000000 in
theorem spelt_core {w : World} {n c n' c' k : Nat} {A A' : Option Addr} {L : List UInt8} {zs : List Int} {q : UInt8} {sg : Bool} (m : Int) (hL : Bs w 0 w.heap.size A k c L) (hI : Is w 0 w.heap.size A' n' c' zs) (hk : k ≤ 100) (hnn : n ≤ 9223372036854775807) (hmin : min (n : Int) 100 = (k : Int)) (hkc : k ≤ c) (hm : w.cell? ⟨0, 0, none⟩ = some (.int .i64 m))
    (hq : (sg = true ∧ q = 39) ∨ (sg = false ∧ q = 34)) :
    Calls Tryd.prog 9 #[.slice A n c, .slice A' n' c', .bool sg] w fun e w' => e = .returned (.bool true) ∧ Below w.heap.size w w' := by
  have h0 : 0 < w.heap.size := World.block_lt_of_cell? w _ hm
  have hM : ∀ W, Below w.heap.size w W → W.cell? ⟨0, 0, none⟩ = some (.int .i64 m) := fun W h => (h.cell (p := ⟨0, 0, none⟩) h0).trans hm
  have HM := Lib.hid hM
  have hkl := hL.len
  have hcap := hL.cap
  have hcap2 := hI.2.2.1
  have hnn2 := hI.2.1
  have hzl := hI.1
  unfold maxLen at hcap hcap2
  have HL := Lib.hid hL
  have HI := Lib.hid hI
  have HKL := Lib.hid hkl
  have HZL := Lib.hid hzl
  have f5 : (k : Int) ≤ (c : Int) := by omega
  have f6 : (0 : Int) ≤ (k : Int) := by omega
  have hqa : (q.toNat : Int) = 34 ∨ (q.toNat : Int) = 39 := by rcases hq with ⟨_, rfl⟩ | ⟨_, rfl⟩ <;> decide
  have HQA := Lib.hid hqa
  have hst : SpR w q L 0 ⟨#[q]⟩ w := ⟨⟨[], rfl, by simp, by simpa using SP.nil _⟩, Below.refl _ _⟩
  have HST := Lib.hid hst
  have HQ := Lib.hid hq
  clear hm hM hL hI hkl hzl hqa hst hq
  go_enter Tryd.func9, Tryd.ntmps9
  go_upto_if 24 with fail
  go_cut [7] (fun v wx => v = .string ⟨#[q]⟩ ∧ w = wx)
  case first =>
    rcases HQ.out with ⟨rfl, rfl⟩ | ⟨rfl, rfl⟩
    all_goals
      go_wp2_with fail
      go_meet
      exact ⟨rfl, rfl⟩
  case rest =>
    obtain ⟨rfl, rfl⟩ := hcut
    go_wp2_with fail
    go_loopg [8, 9] k (fun g v j wr => ∃ (i : Nat) (sb : ByteArray), i ≤ k ∧ g = k - i ∧ j = .int .i64 i ∧ v = .string sb ∧ SpR w q L i sb wr)
    case atStart => exact ⟨0, _, by omega, by omega, rfl, rfl, HST.out⟩
    case round =>
      obtain ⟨i, sb, hi, rfl, rfl, rfl, hrel⟩ := hrel
      have hsz := hrel.size
      have HR := Lib.hid hrel
      clear hrel
      by_cases hlt : i < k
      · have hlt' : (i : Int) < (k : Int) := by omega
        have hi0 : (0 : Int) ≤ (i : Int) := by omega
        obtain ⟨b, o, rfl, _, hb1, hcells⟩ := HL.out.at_ (by omega)
        have hil : i < L.length := by have := HKL.out; omega
        have hc : ∀ W, Below w.heap.size w W → W.cell? ⟨b, o + i, none⟩ = some (.int .u8 (L[i].toNat : Int)) := fun W h => (h.cell (p := ⟨b, o + i, none⟩) hb1).trans (hcells i hil)
        have htk : L.take (i + 1) = L.take i ++ [L[i]] := nth_take L i hil
        have HTK := Lib.hid htk
        have HC := Lib.hid hc
        generalize hx : L[i] = x at *
        clear hcells htk hx hc
        go_upto_if 34 with fail
        go_cut [10] (fun v wx => ∃ kz : Int, 0 ≤ kz ∧ kz < 4 ∧ v = .int .i64 kz ∧ wr = wx)
        case first =>
          by_cases hn0 : n' = 0
          · have hn0' : ¬ (0 : Int) < (n' : Int) := by omega
            clear hn0
            go_wp2_with fail
            go_meet
            exact ⟨0, by omega, by omega, rfl, rfl⟩
          · have hn1 : (0 : Int) < (n' : Int) := by omega
            have hn2 : 0 < n' := by omega
            obtain ⟨b2, o2, rfl, _, hb2, hcells2⟩ := HI.out.2.2.2 hn2
            have hmod : i % n' < n' := Nat.mod_lt _ hn2
            have hc2 : wr.cell? ⟨b2, o2 + i % n', none⟩ = some (.int .i64 (zs[i % n']'(by have := HZL.out; omega))) := (HR.out.bw.cell (p := ⟨b2, o2 + i % n', none⟩) hb2).trans (hcells2 (i % n') (by have := HZL.out; omega))
            generalize (zs[i % n']'(by have := HZL.out; omega)) = z at hc2
            have m0 : (0 : Int) ≤ (i : Int) % (n' : Int) := by omega
            have m1 : (i : Int) % (n' : Int) < (n' : Int) := Int.emod_lt_of_pos _ (by omega)
            have m2 : ((i : Int) % (n' : Int)).toNat = i % n' := by omega
            have hbr : ∀ W, Calls Tryd.prog 33 #[.int .i64 z, .int .i64 4] W fun e w' => e = .returned (.int .i64 (brg z 4 : Nat)) ∧ W = w' := fun W => bring_any z 4 W (by omega) (by omega)
            have hb4 := brg_lt z 4 (by omega)
            generalize brg z 4 = bz at *
            have HBR := Lib.hid hbr
            clear hcells2 hn0 hbr hmod
            go_wp2_with fail
            refine (HBR.out _).mono ?_
            rintro e _ ⟨rfl, rfl⟩
            go_wp2_with fail
            go_meet
            exact ⟨(bz : Int), by omega, by omega, rfl, rfl⟩
        case rest =>
          obtain ⟨kz, hkz0, hkz4, rfl, rfl⟩ := hcut
          have hx8 := x.toNat_lt
          have hcw := HC.out _ HR.out.bw
          obtain ⟨ob, hcv3, hob⟩ : ∃ ob : ByteArray, (∀ W : World, (convert 22 9 (.slice (some ⟨W.heap.size, 0, none⟩) 3 3)).run Tryd.prog (W.alloc (.cells #[.int .u8 (48 + (x.toNat : Int) / 64), .int .u8 (48 + (x.toNat : Int) / 8 % 8), .int .u8 (48 + (x.toNat : Int) % 8)] 5)) = .ok (.string ob) (W.alloc (.cells #[.int .u8 (48 + (x.toNat : Int) / 64), .int .u8 (48 + (x.toNat : Int) / 8 % 8), .int .u8 (48 + (x.toNat : Int) % 8)] 5))) ∧ 92 :: ob.data.toList = octs x := by
            refine ⟨_, fun W => conv_three _ _ _ W (by omega) (by omega) (by omega), ?_⟩
            have e1 : (48 + (x.toNat : Int) / 64).toNat = 48 + x.toNat / 64 := by omega
            have e2 : (48 + (x.toNat : Int) / 8 % 8).toNat = 48 + x.toNat / 8 % 8 := by omega
            have e3 : (48 + (x.toNat : Int) % 8).toNat = 48 + x.toNat % 8 := by omega
            rw [e1, e2, e3]
            rfl
          have hobl : ob.size = 3 := by
            have h1 : ob.data.toList.length = ob.size := by simp
            have h2 : (92 :: ob.data.toList).length = 4 := by rw [hob]; rfl
            simp only [List.length_cons] at h2
            omega
          obtain ⟨o4, ha4, hl4⟩ := str_add ⟨#[92]⟩ ob (by show 1 + ob.size ≤ _; omega)
          have hl4' : o4.data.toList = octs x := by rw [hl4, ← hob]; rfl
          have ho4 : o4.size = 4 := by
            have h1 : o4.data.toList.length = o4.size := by simp
            rw [hl4'] at h1
            exact h1.symm
          have HL4 := Lib.hid hl4'
          clear hob hobl hl4 hl4'
          go_upto_region 14 with fail
          have HBA := Lib.hid (HR.out.bw.alloc HR.out.bw.size (.cells #[.int .u8 (48 + (x.toNat : Int) / 64), .int .u8 (48 + (x.toNat : Int) / 8 % 8), .int .u8 (48 + (x.toNat : Int) % 8)] 5))
          generalize wr.alloc (.cells #[.int .u8 (48 + (x.toNat : Int) / 64), .int .u8 (48 + (x.toNat : Int) / 8 % 8), .int .u8 (48 + (x.toNat : Int) % 8)] 5) = WA at *
          clear hcv3 ha4 hcw
          obtain ⟨hb, hhb, hhl⟩ : ∃ hb : ByteArray, hb = ⟨#[hx1 x, hx2 x]⟩ ∧ hb.data.toList = [hx1 x, hx2 x] := ⟨_, rfl, rfl⟩
          go_cut [13] (fun v wx => v = .string hb ∧ Below w.heap.size w wx)
          case first =>
            have hg1 : ((⟨#[48, 49, 50, 51, 52, 53, 54, 55, 56, 57, 97, 98, 99, 100, 101, 102]⟩ : ByteArray)[x.toNat / 16]'(by show _ < 16; omega)).toNat = (hx1 x).toNat := by rw [hexLo_get _ (by omega)]; rfl
            have hg2 : ((⟨#[48, 49, 50, 51, 52, 53, 54, 55, 56, 57, 65, 66, 67, 68, 69, 70]⟩ : ByteArray)[x.toNat % 16]'(by show _ < 16; omega)).toNat = (hx2 x).toNat := by rw [hexUp_get _ (by omega)]; rfl
            have y1l := (hx1 x).toNat_lt
            have y2l := (hx2 x).toNat_lt
            generalize hx1 x = y1 at *
            generalize hx2 x = y2 at *
            have ey1 : UInt8.ofNat ((y1.toNat : Nat) : Int).toNat = y1 := by simp
            have ey2 : UInt8.ofNat ((y2.toNat : Nat) : Int).toNat = y2 := by simp
            have hcv2 := fun W => conv_two (y1.toNat : Nat) (y2.toNat : Nat) W (by omega) (by omega)
            have hcv2' := fun W => conv_two' (y1.toNat : Nat) (y2.toNat : Nat) W (by omega) (by omega)
            rw [ey1, ey2, ← hhb] at hcv2 hcv2'
            have q0 : (0 : Int) ≤ (x.toNat : Int) / 16 := by omega
            have q1 : (x.toNat : Int) / 16 < 16 := by omega
            have q2 : ((x.toNat : Int) / 16).toNat = x.toNat / 16 := by omega
            have q3 : (0 : Int) ≤ (x.toNat : Int) % 16 := by omega
            have q4 : (x.toNat : Int) % 16 < 16 := by omega
            have q5 : ((x.toNat : Int) % 16).toNat = x.toNat % 16 := by omega
            have d1e : ((x.toNat : Int)).tdiv 16 = (x.toNat : Int) / 16 := Int.tdiv_eq_ediv_of_nonneg (by omega)
            have d2e : ((x.toNat : Int)).tmod 16 = (x.toNat : Int) % 16 := Int.tmod_eq_emod_of_nonneg (by omega)
            have d3e : IntKind.u8.wrap ((x.toNat : Int) / 16) = (x.toNat : Int) / 16 := IntWalk.u8_in _ (by omega)
            have d4e : IntKind.u8.wrap ((x.toNat : Int) % 16) = (x.toNat : Int) % 16 := IntWalk.u8_in _ (by omega)
            clear ey1 ey2 hhb hhl
            have HBD := Lib.hid HBA.out.drew
            go_still_tail 6, (by kernel_rfl)
            change wpList _ _ _ _ _ WA.drew
            generalize WA.drew = W2 at *
            go_wp2_with fail
            go_meet
            exact ⟨rfl, HBD.out.alloc HBD.out.size _⟩
          case rest =>
            obtain ⟨rfl, hbc⟩ := hcut
            obtain ⟨w14, hw14⟩ : ∃ W, W = wc := ⟨_, rfl⟩
            subst hw14
            have HBC := Lib.hid hbc
            have HHL := Lib.hid hhl
            have hhs : hb.size = 2 := by rw [hhb]; rfl
            clear hbc hhl hhb
            go_upto_region 15 with fail
            go_cut [14] (fun v wx => v = .bool (plB q x) ∧ w14 = wx)
            case first =>
              have hpl : plB q x = (decide (32 ≤ (x.toNat : Int)) && ((x.toNat : Int) != 92) && ((x.toNat : Int) != (q.toNat : Int))) := rfl
              have hqi : ∀ h, (⟨#[q]⟩ : ByteArray)[0]'h = q := fun _ => rfl
              have hq8 := q.toNat_lt
              have hcase : (¬ 32 ≤ (x.toNat : Int)) ∨ (32 ≤ (x.toNat : Int) ∧ ((x.toNat : Int) != 92) = false) ∨ (32 ≤ (x.toNat : Int) ∧ ((x.toNat : Int) != 92) = true ∧ ((x.toNat : Int) != (q.toNat : Int)) = false) ∨ (32 ≤ (x.toNat : Int) ∧ ((x.toNat : Int) != 92) = true ∧ ((x.toNat : Int) != (q.toNat : Int)) = true) := by
                simp only [bne_iff_ne, ne_eq, bne_eq_false_iff_eq]
                omega
              rcases hcase with d | ⟨d, d1⟩ | ⟨d, d1, d2⟩ | ⟨d, d1, d2⟩
              · have HPB := Lib.hid (show plB q x = false by rw [hpl, decide_eq_false d]; rfl)
                clear hpl
                go_wp2_with fail
                go_meet
                exact ⟨by rw [HPB.out], rfl⟩
              · have HPB := Lib.hid (show plB q x = false by rw [hpl, decide_eq_true d, d1]; rfl)
                clear hpl
                go_wp2_with fail
                go_meet
                exact ⟨by rw [HPB.out], rfl⟩
              · have HPB := Lib.hid (show plB q x = false by rw [hpl, decide_eq_true d, d1, d2]; rfl)
                clear hpl
                go_wp2_with fail
                go_meet
                exact ⟨by rw [HPB.out], rfl⟩
              · have HPB := Lib.hid (show plB q x = true by rw [hpl, decide_eq_true d, d1, d2]; rfl)
                clear hpl
                go_wp2_with fail
                go_meet
                exact ⟨by rw [HPB.out], rfl⟩
            case rest =>
              obtain ⟨rfl, rfl⟩ := hcut
              have hoct : SP (q.toNat : Int) [x] (octs x) := SP.oct HQA.out x
              have hhex1 : SP (q.toNat : Int) [x] [92, 120, hx1 x, hx2 x] := SP.hex HQA.out x 120 (.inl rfl)
              have hhex2 : SP (q.toNat : Int) [x] [92, 88, hx1 x, hx2 x] := SP.hex HQA.out x 88 (.inr rfl)
              obtain ⟨s1, a1, l1⟩ := str_add sb o4 (by omega)
              obtain ⟨s2, a2, l2⟩ := str_add sb ⟨#[92, 120]⟩ (by show sb.size + 2 ≤ _; omega)
              obtain ⟨s4, a4, l4⟩ := str_add sb ⟨#[92, 88]⟩ (by show sb.size + 2 ≤ _; omega)
              obtain ⟨s6, a6, l6⟩ := str_add sb ⟨#[x]⟩ (by show sb.size + 1 ≤ _; omega)
              have hs2 : s2.size ≤ 403 := by
                have h1 : s2.data.toList.length = s2.size := by simp
                have h3 : sb.data.toList.length = sb.size := by simp
                rw [l2, List.length_append, h3] at h1
                have : (⟨#[92, 120]⟩ : ByteArray).data.toList.length = 2 := rfl
                omega
              have hs4 : s4.size ≤ 403 := by
                have h1 : s4.data.toList.length = s4.size := by simp
                have h3 : sb.data.toList.length = sb.size := by simp
                rw [l4, List.length_append, h3] at h1
                have : (⟨#[92, 88]⟩ : ByteArray).data.toList.length = 2 := rfl
                omega
              obtain ⟨s3, a3, l3⟩ := str_add s2 hb (by omega)
              obtain ⟨s5, a5, l5⟩ := str_add s4 hb (by omega)
              have exx : UInt8.ofNat ((x.toNat : Nat) : Int).toNat = x := by simp
              have hcv1 := fun W => conv_one (x.toNat : Nat) (by omega) (by omega) W
              rw [exx] at hcv1
              have R1 := Lib.hid (show ∀ W, Below w.heap.size w W → SpR w q L (i + 1) s1 W from fun W h => HR.out.next HTK.out hoct (Nat.le_refl _) (by rw [l1, HL4.out]) h)
              have R3 := Lib.hid (show ∀ W, Below w.heap.size w W → SpR w q L (i + 1) s3 W from fun W h => HR.out.next HTK.out hhex1 (by simp) (by rw [l3, l2, HHL.out]; simp) h)
              have R5 := Lib.hid (show ∀ W, Below w.heap.size w W → SpR w q L (i + 1) s5 W from fun W h => HR.out.next HTK.out hhex2 (by simp) (by rw [l5, l4, HHL.out]; simp) h)
              have R6 := Lib.hid (show plB q x = true → ∀ W, Below w.heap.size w W → SpR w q L (i + 1) s6 W from fun hp W h => HR.out.next HTK.out (SP.plB_ hp) (by simp) (by rw [l6]) h)
              clear hoct hhex1 hhex2 l1 l2 l3 l4 l5 l6 exx
              generalize plB q x = P at *
              obtain rfl | rfl | rfl | rfl : kz = 0 ∨ kz = 1 ∨ kz = 2 ∨ kz = 3 := by omega
              · go_wp2_with fail
                go_roundg (k - (i + 1))
                case measure => omega
                case rel => exact ⟨i + 1, s1, by omega, rfl, by go_num, rfl, R1.out _ HBC.out⟩
              · go_wp2_with fail
                go_roundg (k - (i + 1))
                case measure => omega
                case rel => exact ⟨i + 1, s3, by omega, rfl, by go_num, rfl, R3.out _ HBC.out⟩
              · go_wp2_with fail
                go_roundg (k - (i + 1))
                case measure => omega
                case rel => exact ⟨i + 1, s5, by omega, rfl, by go_num, rfl, R5.out _ HBC.out⟩
              · cases P
                · go_wp2_with fail
                  go_roundg (k - (i + 1))
                  case measure => omega
                  case rel => exact ⟨i + 1, s1, by omega, rfl, by go_num, rfl, R1.out _ HBC.out⟩
                · have R66 := Lib.hid (R6.out rfl)
                  go_wp2_with fail
                  go_roundg (k - (i + 1))
                  case measure => omega
                  case rel => exact ⟨i + 1, s6, by omega, rfl, by go_num, rfl, R66.out _ (HBC.out.alloc HBC.out.size _)⟩
      · have hlt' : ¬ (i : Int) < (k : Int) := by omega
        obtain rfl : i = k := by omega
        obtain ⟨sc, ac, lc⟩ := str_add sb ⟨#[q]⟩ (by show sb.size + 1 ≤ _; omega)
        have hscl : sc.size = sb.size + 1 := by
          have h1 : sc.data.toList.length = sc.size := by simp
          have h3 : sb.data.toList.length = sb.size := by simp
          rw [lc, List.length_append, h3] at h1
          have : (⟨#[q]⟩ : ByteArray).data.toList.length = 1 := rfl
          omega
        have hunq : unqL sc.data.toList = some L := by
          obtain ⟨p, h1, h2, h3⟩ := HR.out.ex
          have hkl := HKL.out
          rw [lc, h1]
          have : L.take i = L := List.take_of_length_le (by omega)
          rw [this] at h3
          exact unq_spelt HQA.out h3
        have hun1 : ∀ W, Calls Tryd.prog 28 #[.string sc] W (BytesP W (0, L)) := by
          intro W
          have := unquote_any sc W (by omega)
          rw [hunq] at this
          exact this
        have hun2 : ∀ W, Calls Tryd.prog 28 #[.string sb] W (BytesP W (ansR (unqL sb.data.toList))) := fun W => unquote_any sb W (by omega)
        have hfq : unqL sb.data.toList = none ∨ (∃ l', unqL sb.data.toList = some l' ∧ 1 < sb.size) := by
          cases hu : unqL sb.data.toList with
          | none => exact .inl rfl
          | some l' =>
            refine .inr ⟨l', rfl, ?_⟩
            rcases Nat.lt_or_ge 1 sb.size with h | h
            · exact h
            · have hl1 : sb.data.toList.length < 2 := by have : sb.data.toList.length = sb.size := by simp
                                                         omega
              unfold unqL at hu
              rw [if_pos hl1] at hu
              cases hu
        have HUN1 := Lib.hid hun1
        have hwk : ∀ W, Below w.heap.size w W → Calls Tryd.prog 21 #[] W fun e w' => e = .returned (.bool true) ∧ Below W.heap.size W w' := fun W h => works_any W m (HM.out W h)
        have HWK := Lib.hid hwk
        have HUN2 := Lib.hid hun2
        have HFQ := Lib.hid hfq
        clear lc hunq hun1 hun2 hfq hwk hlt
        go_wp2_with fail
        refine (HUN1.out _).mono ?_
        rintro e w1 ⟨v1, rfl, ho1, hb1⟩
        obtain ⟨A1, c1, rfl, hB1⟩ := ho1.bs
        have HB := Lib.hid (HR.out.bw.trans (hb1.mono HR.out.bw.size))
        have HB1 := Lib.hid hB1
        clear ho1 hb1 hB1
        go_wp2_with fail
        refine (HUN2.out _).mono ?_
        rintro e w2 ⟨v2, rfl, ho2, hb2⟩
        have HB3 := Lib.hid (HB.out.trans (hb2.mono HB.out.size))
        have heq := fun W (hW : W = w2) => eqb_any (w := W) (show Bs W _ _ _ _ _ _ from hW ▸ HB1.out.below hb2 (Nat.le_refl _)) (show Bs W _ _ _ _ _ _ from hW ▸ HL.out.below HB3.out (Nat.le_refl _))
        have ell : (L == L) = true := by simp
        simp only [ell] at heq
        have HEQ := Lib.hid heq
        obtain ⟨A2, k2, c2, rfl⟩ := ho2.val
        clear ho2 hb2 heq ell
        rcases HFQ.out with hu | ⟨l', hu, hs1⟩
        · rw [hu]
          clear hu
          unfold ansR
          go_wp2_with fail
          refine (HEQ.out _ rfl).mono ?_
          rintro e _ ⟨rfl, rfl⟩
          go_wp2_with fail
          refine (HWK.out _ HB3.out).mono ?_
          rintro e w4 ⟨rfl, hb4⟩
          have HB4 := Lib.hid (HB3.out.trans (hb4.mono HB3.out.size))
          clear hb4
          go_wp2_with fail
          go_ret
          exact ⟨rfl, HB4.out⟩
        · rw [hu]
          clear hu
          have hs1' : (1 : Int) < (sb.size : Int) := by omega
          unfold ansR
          go_wp2_with fail
          refine (HEQ.out _ rfl).mono ?_
          rintro e _ ⟨rfl, rfl⟩
          go_wp2_with fail
          refine (HWK.out _ HB3.out).mono ?_
          rintro e w4 ⟨rfl, hb4⟩
          have HB4 := Lib.hid (HB3.out.trans (hb4.mono HB3.out.size))
          clear hb4
          go_wp2_with fail
          go_ret
          exact ⟨rfl, HB4.out⟩

theorem spelt_any {w : World} {n c n' c' : Nat} {A A' : Option Addr} {l : List UInt8} {zs : List Int} (sg : Bool) (m : Int) (hB : Bs w 0 w.heap.size A n c l) (hI : Is w 0 w.heap.size A' n' c' zs) (hm : w.cell? ⟨0, 0, none⟩ = some (.int .i64 m)) :
    Calls Tryd.prog 9 #[.slice A n c, .slice A' n' c', .bool sg] w fun e w' => e = .returned (.bool true) ∧ Below w.heap.size w w' := by
  obtain ⟨k, L, hk, hL, hmin, hkc⟩ := cut_bs 100 hB
  have h1 := hB.le
  have h2 := hB.cap
  unfold maxLen at h2
  exact spelt_core (q := if sg then 39 else 34) m hL hI hk (by omega) hmin hkc hm (by cases sg <;> simp)
end Go.Proofs.YtjophmgpknpboaaDoor
