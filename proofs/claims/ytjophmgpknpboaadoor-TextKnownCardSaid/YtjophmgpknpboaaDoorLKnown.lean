/-
  TextKnown, walked.
-/
import Derived.Test.YtjophmgpknpboaaDoorLQuotes
import Derived.Test.YtjophmgpknpboaaDoorLRunes
import Derived.Test.YtjophmgpknpboaaDoorLNames
import Derived.StillTailTactics
import Derived.Deep.CutBlock
namespace Go.Proofs.YtjophmgpknpboaaDoor
open Go.RowKit
set_option linter.unusedVariables false
set_option linter.unusedSimpArgs false

theorem str_add2 (a b : ByteArray) (n : Nat) (h : a.size + b.size ≤ n) (hn : n ≤ 1000000) : ∃ c : ByteArray, (∀ W, (Op.stringOp .add a b).run Tryd.prog W = .ok (.string c) W) ∧ c.size ≤ n := by
  obtain ⟨c, h1, h2⟩ := str_add a b (by omega)
  refine ⟨c, h1, ?_⟩
  have e1 : c.data.toList.length = c.size := by simp
  have e2 : a.data.toList.length = a.size := by simp
  have e3 : b.data.toList.length = b.size := by simp
  rw [h2, List.length_append, e2, e3] at e1
  omega
/-- N slices of bytes lie in block B. -/
def SlsOk (w : World) (B N : Nat) : Prop := B < w.heap.size ∧ ∀ i, i < N → ∃ A n c l, w.cell? ⟨B, i, none⟩ = some (.slice A n c) ∧ Bs w 0 w.heap.size A n c l
theorem SlsOk.below {w w' : World} {B N : Nat} (h : SlsOk w B N) (hb : Below w.heap.size w w') : SlsOk w' B N := by
  refine ⟨Nat.lt_of_lt_of_le h.1 hb.size, fun i hi => ?_⟩
  obtain ⟨A, n, c, l, h1, h2⟩ := h.2 i hi
  exact ⟨A, n, c, l, (hb.cell (p := ⟨B, i, none⟩) h.1).trans h1, (h2.below hb (Nat.le_refl _)).mono (Nat.le_refl _) hb.size⟩
/-- Bytes that are laid one behind the other. -/
def bl (l : List Int) : Obj := .cells (l.map (Value.int .u8)).toArray 5
def allocs (W : World) : List (List Int) → World
  | [] => W
  | l :: r => allocs (W.alloc (bl l)) r
def mkSl (s : Nat) : List (List Int) → List Value
  | [] => []
  | l :: r => .slice (some ⟨s, 0, none⟩) l.length l.length :: mkSl (s + 1) r
theorem allocs_size : ∀ (ls : List (List Int)) (W : World), (allocs W ls).heap.size = W.heap.size + ls.length
  | [], W => rfl
  | l :: r, W => by rw [allocs, allocs_size r, World.size_alloc, List.length_cons]; omega
theorem allocs_below {w : World} : ∀ (ls : List (List Int)) (W : World), Below w.heap.size w W → Below w.heap.size w (allocs W ls)
  | [], W, h => h
  | l :: r, W, h => allocs_below r _ (h.alloc h.size _)
theorem allocs_at : ∀ (ls : List (List Int)) (W : World), (∀ l ∈ ls, l.length ≤ 1000 ∧ ∀ z ∈ l, 0 ≤ z ∧ z < 256) → ∀ k (h : k < ls.length), Bs (allocs W ls) 0 (W.heap.size + ls.length) (some ⟨W.heap.size + k, 0, none⟩) ls[k].length ls[k].length (ls[k].map fun z => UInt8.ofNat z.toNat)
  | [], W, _, k, h => by simp at h
  | l :: r, W, hl, 0, h => by
    have h1 := hl l (by simp)
    have hb : Bs (W.alloc (bl l)) W.heap.size (W.heap.size + 1) (some ⟨W.heap.size, 0, none⟩) l.length l.length (l.map fun z => UInt8.ofNat z.toNat) := Bs.ints W l h1.2 h1.1
    have := (hb.below (allocs_below r _ (Below.refl (W.alloc (bl l)).heap.size (W.alloc (bl l)))) (by simp)).mono (Nat.zero_le _) (show W.heap.size + 1 ≤ W.heap.size + (l :: r).length by simp)
    exact this
  | l :: r, W, hl, k + 1, h => by
    have := allocs_at r (W.alloc (bl l)) (fun x hx => hl x (by simp [hx])) k (by simpa using h)
    rw [World.size_alloc] at this
    rw [show W.heap.size + (k + 1) = W.heap.size + 1 + k by omega, show W.heap.size + (l :: r).length = W.heap.size + 1 + r.length by simp; omega]
    exact this
theorem mkSl_at : ∀ (ls : List (List Int)) (s k : Nat) (h : k < ls.length), (mkSl s ls)[k]? = some (.slice (some ⟨s + k, 0, none⟩) ls[k].length ls[k].length)
  | [], s, k, h => by simp at h
  | l :: r, s, 0, h => rfl
  | l :: r, s, k + 1, h => by
    rw [mkSl, List.getElem?_cons_succ, mkSl_at r (s + 1) k (by simpa using h)]
    rw [show s + 1 + k = s + (k + 1) by omega]
    rfl
theorem sls_allocs (W : World) (ls : List (List Int)) (t : TypeId) (hl : ∀ l ∈ ls, l.length ≤ 1000 ∧ ∀ z ∈ l, 0 ≤ z ∧ z < 256) : SlsOk ((allocs W ls).alloc (.cells (mkSl W.heap.size ls).toArray t)) (W.heap.size + ls.length) ls.length := by
  have hsz := allocs_size ls W
  refine ⟨by rw [World.size_alloc, hsz]; omega, fun i hi => ?_⟩
  have hb := Blk.new (allocs W ls) t (mkSl W.heap.size ls).toArray
  rw [hsz] at hb
  have hc := hb.cell i
  rw [List.getElem?_toArray, mkSl_at ls W.heap.size i hi] at hc
  refine ⟨_, _, _, ls[i].map fun z => UInt8.ofNat z.toNat, hc, ?_⟩
  exact ((allocs_at ls W hl i hi).alloc (by rw [hsz]; exact Nat.le_refl _) _).mono (Nat.le_refl _) (by rw [World.size_alloc, hsz]; omega)
/-- N short texts lie in block B. -/
def StrsOk (w : World) (B N : Nat) : Prop := B < w.heap.size ∧ ∀ i, i < N → ∃ t : ByteArray, w.cell? ⟨B, i, none⟩ = some (.string t) ∧ t.size ≤ 1000
theorem StrsOk.below {w w' : World} {B N : Nat} (h : StrsOk w B N) (hb : Below w.heap.size w w') : StrsOk w' B N := by
  refine ⟨Nat.lt_of_lt_of_le h.1 hb.size, fun i hi => ?_⟩
  obtain ⟨t, h1, h2⟩ := h.2 i hi
  exact ⟨t, (hb.cell (p := ⟨B, i, none⟩) h.1).trans h1, h2⟩

/-- N numbers lie in block B. -/
def IntsOk (w : World) (B N : Nat) : Prop := B < w.heap.size ∧ ∀ i, i < N → ∃ z : Int, w.cell? ⟨B, i, none⟩ = some (.int .i64 z)
theorem IntsOk.below {w w' : World} {B N : Nat} (h : IntsOk w B N) (hb : Below w.heap.size w w') : IntsOk w' B N := by
  refine ⟨Nat.lt_of_lt_of_le h.1 hb.size, fun i hi => ?_⟩
  obtain ⟨z, h1⟩ := h.2 i hi
  exact ⟨z, (hb.cell (p := ⟨B, i, none⟩) h.1).trans h1⟩
theorem ints_alloc (W : World) (zs : List Int) (t : TypeId) : IntsOk (W.alloc (.cells (zs.map (Value.int .i64)).toArray t)) W.heap.size zs.length := by
  refine ⟨by rw [World.size_alloc]; omega, fun i hi => ?_⟩
  have hc := (Blk.new W t (zs.map (Value.int .i64)).toArray).cell i
  rw [List.getElem?_toArray, List.getElem?_map, List.getElem?_eq_getElem hi] at hc
  exact ⟨zs[i], hc⟩
theorem strs_alloc (W : World) (ts : List ByteArray) (t : TypeId) (h : ∀ x ∈ ts, x.size ≤ 1000) : StrsOk (W.alloc (.cells (ts.map Value.string).toArray t)) W.heap.size ts.length := by
  refine ⟨by rw [World.size_alloc]; omega, fun i hi => ?_⟩
  have hc := (Blk.new W t (ts.map Value.string).toArray).cell i
  rw [List.getElem?_toArray, List.getElem?_map, List.getElem?_eq_getElem hi] at hc
  exact ⟨ts[i], hc, h _ (List.getElem_mem _)⟩
set_option maxRecDepth 100000 in
set_option maxHeartbeats 1000000 in
theorem known_any (w : World) (m : Int) (hm : w.cell? ⟨0, 0, none⟩ = some (.int .i64 m)) : Calls Tryd.prog 11 #[] w fun e w' => e = .returned (.bool true) ∧ Below w.heap.size w w' := by
  have h0 : 0 < w.heap.size := World.block_lt_of_cell? w _ hm
  have hM : ∀ W, Below w.heap.size w W → W.cell? ⟨0, 0, none⟩ = some (.int .i64 m) := fun W h => (h.cell (p := ⟨0, 0, none⟩) h0).trans hm
  have HM := Lib.hid hM
  clear hm hM
  go_enter Tryd.func11, Tryd.ntmps11
  go_upto_block 0 with fail
  go_cut [1] (fun v wx => Below w.heap.size w wx)
  case first =>
    go_wp2_with fail
    go_loopg [1] 256 (fun g v wr => ∃ i : Nat, i ≤ 256 ∧ g = 256 - i ∧ v = .int .i64 i ∧ Below w.heap.size w wr)
    case atStart => exact ⟨0, by omega, rfl, rfl, Below.refl _ _⟩
    case round =>
      obtain ⟨i, hi, rfl, rfl, hbr⟩ := hrel
      have HBR := Lib.hid hbr
      clear hbr
      by_cases hlt : i < 256
      · have hlt' : (i : Int) < 256 := by omega
        have hi0 : (0 : Int) ≤ (i : Int) := by omega
        have hcv := fun W => conv_one (i : Int) (by omega) (by omega) W
        obtain ⟨sb, hsb⟩ : ∃ sb : ByteArray, sb = ⟨#[UInt8.ofNat ((i : Nat) : Int).toNat]⟩ := ⟨_, rfl⟩
        rw [← hsb] at hcv
        have hsz : sb.size = 1 := by rw [hsb]; rfl
        clear hsb
        go_upto_region 5 with fail
        have HB1 := Lib.hid (HBR.out.alloc HBR.out.size (.cells #[.int .u8 (i : Int)] 5))
        generalize wr.alloc (.cells #[.int .u8 (i : Int)] 5) = w4 at *
        clear hcv
        go_cut [3] (fun v wx => ∃ B : Nat, v = .slice (some ⟨B, 0, none⟩) 8 8 ∧ SlsOk wx B 8 ∧ Below w.heap.size w wx)
        case first =>
          go_wp2_with fail
          go_meet
          have hsl := sls_allocs w4 [[(i : Int)], [195, (i : Int)], [226, (i : Int), 128], [237, (i : Int), 128], [240, (i : Int), 128, 128], [244, (i : Int), 128, 128], [(i : Int), 128], [226, 130, (i : Int)]] 22 (by
            intro l hl
            simp only [List.mem_cons, List.mem_nil_iff, or_false] at hl
            rcases hl with rfl | rfl | rfl | rfl | rfl | rfl | rfl | rfl
            all_goals
              refine ⟨by simp, ?_⟩
              intro z hz
              simp only [List.mem_cons, List.mem_nil_iff, or_false] at hz
              omega)
          have hbe := (allocs_below [[(i : Int)], [195, (i : Int)], [226, (i : Int), 128], [237, (i : Int), 128], [240, (i : Int), 128, 128], [244, (i : Int), 128, 128], [(i : Int), 128], [226, 130, (i : Int)]] w4 HB1.out)
          exact ⟨_, rfl, hsl, hbe.alloc hbe.size _⟩
        case rest =>
          obtain ⟨B, rfl, hs, hb⟩ := hcut
          obtain ⟨w5, hw5⟩ : ∃ W, W = wc := ⟨_, rfl⟩
          subst hw5
          have HS := Lib.hid hs
          have HB5 := Lib.hid hb
          clear hs hb
          obtain ⟨t1, a1, z1⟩ := str_add2 ⟨#[34, 92]⟩ sb 3 (by show 2 + sb.size ≤ 3; omega) (by omega)
          obtain ⟨t2, a2, z2⟩ := str_add2 t1 ⟨#[34]⟩ 4 (by show t1.size + 1 ≤ 4; omega) (by omega)
          go_upto_block 2 with fail
          go_cut [4] (fun v wx => Below w.heap.size w wx)
          case first =>
            go_wp2_with fail
            go_loopg [4] 8 (fun g v wr => ∃ j : Nat, j ≤ 8 ∧ g = 8 - j ∧ v = .int .i64 j ∧ Below w5.heap.size w5 wr)
            case atStart => exact ⟨0, by omega, rfl, rfl, Below.refl _ _⟩
            case round =>
              obtain ⟨j, hj, rfl, rfl, hbr⟩ := hrel
              have HBJ := Lib.hid hbr
              clear hbr
              by_cases hlt2 : j < 8
              · have hlt2' : (j : Int) < 8 := by omega
                have hj0 : (0 : Int) ≤ (j : Int) := by omega
                obtain ⟨A, n, c, l, hc, hbs⟩ := (HS.out.below HBJ.out).2 j hlt2
                have HBW := Lib.hid (HB5.out.trans (HBJ.out.mono HB5.out.size))
                have h3 := Lib.hid (lrunes_any (i : Int) m hbs (HM.out _ HBW.out))
                have HBS := Lib.hid hbs
                have HC := Lib.hid hc
                have hlt3 := (HS.out.below HBJ.out).1
                clear hbs
                go_wp2_with fail
                refine (h3.out).mono ?_
                rintro e w6 ⟨rfl, hb6⟩
                have HB6 := Lib.hid (HBW.out.trans (hb6.mono HBW.out.size))
                have HJ6 := Lib.hid (HBJ.out.trans (hb6.mono HBJ.out.size))
                have hc6 := (hb6.cell (p := ⟨B, j, none⟩) hlt3).trans HC.out
                have h5 := Lib.hid (quotes_any t2 m ((HBS.out.below hb6 (Nat.le_refl _)).mono (Nat.le_refl _) hb6.size) (by unfold maxLen; omega) (HM.out _ HB6.out))
                clear hb6 h3 hc hlt3
                go_wp2_with fail
                refine (h5.out).mono ?_
                rintro e w7 ⟨rfl, hb7⟩
                have HJ7 := Lib.hid (HJ6.out.trans (hb7.mono HJ6.out.size))
                clear hb7 h5 hc6
                go_wp2_with fail
                go_roundg (8 - (j + 1))
                case measure => omega
                case rel => exact ⟨j + 1, by omega, rfl, by go_num, HJ7.out⟩
              · have hlt2' : ¬ (j : Int) < 8 := by omega
                go_wp2_with fail
                go_meet
                exact HB5.out.trans (HBJ.out.mono HB5.out.size)
          case rest =>
            have hbw := hcut
            obtain ⟨w8, hw8⟩ : ∃ W, W = wc := ⟨_, rfl⟩
            subst hw8
            have HB8 := Lib.hid hbw
            clear hbw hcut a2 z2 HS HB5
            obtain ⟨p1, b1, y1⟩ := str_add2 ⟨#[39]⟩ sb 2 (by show 1 + sb.size ≤ 2; omega) (by omega)
            obtain ⟨q1, c1, x1⟩ := str_add2 p1 ⟨#[39]⟩ 3 (by show p1.size + 1 ≤ 3; omega) (by omega)
            obtain ⟨q2, c2, x2⟩ := str_add2 t1 ⟨#[48, 34]⟩ 5 (by show t1.size + 2 ≤ 5; omega) (by omega)
            obtain ⟨p3, b3, y3⟩ := str_add2 ⟨#[34, 92, 120]⟩ sb 4 (by show 3 + sb.size ≤ 4; omega) (by omega)
            obtain ⟨q3, c3, x3⟩ := str_add2 p3 ⟨#[34]⟩ 5 (by show p3.size + 1 ≤ 5; omega) (by omega)
            obtain ⟨p4, b4, y4⟩ := str_add2 ⟨#[34, 92, 117, 48, 48]⟩ sb 6 (by show 5 + sb.size ≤ 6; omega) (by omega)
            obtain ⟨q4, c4, x4⟩ := str_add2 p4 ⟨#[52, 34]⟩ 8 (by show p4.size + 2 ≤ 8; omega) (by omega)
            obtain ⟨p5, b5, y5⟩ := str_add2 ⟨#[34, 92, 85, 48, 48, 48, 48]⟩ sb 8 (by show 7 + sb.size ≤ 8; omega) (by omega)
            obtain ⟨q5, c5, x5⟩ := str_add2 p5 ⟨#[48, 48, 48, 34]⟩ 12 (by show p5.size + 4 ≤ 12; omega) (by omega)
            obtain ⟨p6, b6, y6⟩ := str_add2 ⟨#[34, 92, 49]⟩ sb 4 (by show 3 + sb.size ≤ 4; omega) (by omega)
            obtain ⟨q6, c6, x6⟩ := str_add2 p6 ⟨#[55, 34]⟩ 6 (by show p6.size + 2 ≤ 6; omega) (by omega)
            obtain ⟨q7, c7, x7⟩ := str_add2 sb ⟨#[97, 34]⟩ 3 (by show sb.size + 2 ≤ 3; omega) (by omega)
            obtain ⟨q8, c8, x8⟩ := str_add2 ⟨#[34, 97]⟩ sb 3 (by show 2 + sb.size ≤ 3; omega) (by omega)
            go_upto_region 11 with fail
            go_cut [5] (fun v wx => ∃ B : Nat, v = .slice (some ⟨B, 0, none⟩) 9 9 ∧ StrsOk wx B 9 ∧ Below w.heap.size w wx)
            case first =>
              go_wp2_with fail
              go_meet
              exact ⟨_, rfl, strs_alloc w8 [q1, q2, q3, q4, q5, q6, q7, q8, t1] 9 (by
                intro x hx
                simp only [List.mem_cons, List.mem_nil_iff, or_false] at hx
                rcases hx with rfl | rfl | rfl | rfl | rfl | rfl | rfl | rfl | rfl <;> omega), HB8.out.alloc HB8.out.size _⟩
            case rest =>
              clear b1 c1 c2 b3 c3 b4 c4 b5 c5 b6 c6 c7 c8 y1 x1 x2 y3 x3 y4 x4 y5 x5 y6 x6 x7 x8 a1 z1
              obtain ⟨B9, rfl, hs, hb⟩ := hcut
              obtain ⟨w9, hw9⟩ : ∃ W, W = wc := ⟨_, rfl⟩
              subst hw9
              have HS := Lib.hid hs
              have HB9 := Lib.hid hb
              clear hs hb
              obtain ⟨r1, a1, z1⟩ := str_add2 ⟨#[97]⟩ sb 2 (by show 1 + sb.size ≤ 2; omega) (by omega)
              obtain ⟨r2, a2, z2⟩ := str_add2 ⟨#[97, 46]⟩ sb 3 (by show 2 + sb.size ≤ 3; omega) (by omega)
              obtain ⟨r3, a3, z3⟩ := str_add2 ⟨#[97, 95]⟩ sb 3 (by show 2 + sb.size ≤ 3; omega) (by omega)
              obtain ⟨r4, a4, z4⟩ := str_add2 r3 ⟨#[98]⟩ 4 (by show r3.size + 1 ≤ 4; omega) (by omega)
              have hnm : ∀ x : ByteArray, x.size ≤ 1000 → ∀ W, Below w.heap.size w W → Calls Tryd.prog 4 #[.string x] W fun e w' => e = .returned (.bool true) ∧ Below W.heap.size W w' := fun x hx W h => names_any x W m (by unfold maxLen; omega) (HM.out _ h)
              have n1 := Lib.hid (hnm r1 (by omega))
              have n2 := Lib.hid (hnm sb (by omega))
              have n3 := Lib.hid (hnm r2 (by omega))
              have n4 := Lib.hid (hnm r4 (by omega))
              clear hnm z1 z2 z3 z4
              go_wp2_with fail
              go_loopg [6] 9 (fun g v wr => ∃ j : Nat, j ≤ 9 ∧ g = 9 - j ∧ v = .int .i64 j ∧ Below w9.heap.size w9 wr)
              case atStart => exact ⟨0, by omega, rfl, rfl, Below.refl _ _⟩
              case round =>
                obtain ⟨j, hj, rfl, rfl, hbr⟩ := hrel
                have HBJ := Lib.hid hbr
                clear hbr
                by_cases hlt2 : j < 9
                · have hlt2' : (j : Int) < 9 := by omega
                  have hj0 : (0 : Int) ≤ (j : Int) := by omega
                  obtain ⟨t, hc, htz⟩ := (HS.out.below HBJ.out).2 j hlt2
                  have HBW := Lib.hid (HB9.out.trans (HBJ.out.mono HB9.out.size))
                  have h3 := Lib.hid (quotes_any t m (Bs.none_ wr 0 wr.heap.size none (c := 0) (by decide)) (by unfold maxLen; omega) (HM.out _ HBW.out))
                  go_wp2_with fail
                  refine (h3.out).mono ?_
                  rintro e w10 ⟨rfl, hb10⟩
                  have HB10 := Lib.hid (HBW.out.trans (hb10.mono HBW.out.size))
                  have HJ10 := Lib.hid (HBJ.out.trans (hb10.mono HBJ.out.size))
                  clear hb10 h3 hc
                  go_wp2_with fail
                  refine (n1.out _ HB10.out).mono ?_
                  rintro e w11 ⟨rfl, hb11⟩
                  have HB11 := Lib.hid (HB10.out.trans (hb11.mono HB10.out.size))
                  have HJ11 := Lib.hid (HJ10.out.trans (hb11.mono HJ10.out.size))
                  clear hb11
                  go_wp2_with fail
                  refine (n2.out _ HB11.out).mono ?_
                  rintro e w12 ⟨rfl, hb12⟩
                  have HB12 := Lib.hid (HB11.out.trans (hb12.mono HB11.out.size))
                  have HJ12 := Lib.hid (HJ11.out.trans (hb12.mono HJ11.out.size))
                  clear hb12
                  go_wp2_with fail
                  refine (n3.out _ HB12.out).mono ?_
                  rintro e w13 ⟨rfl, hb13⟩
                  have HB13 := Lib.hid (HB12.out.trans (hb13.mono HB12.out.size))
                  have HJ13 := Lib.hid (HJ12.out.trans (hb13.mono HJ12.out.size))
                  clear hb13
                  go_wp2_with fail
                  refine (n4.out _ HB13.out).mono ?_
                  rintro e w14 ⟨rfl, hb14⟩
                  have HJ14 := Lib.hid (HJ13.out.trans (hb14.mono HJ13.out.size))
                  clear hb14
                  go_wp2_with fail
                  go_roundg (9 - (j + 1))
                  case measure => omega
                  case rel => exact ⟨j + 1, by omega, rfl, by go_num, HJ14.out⟩
                · have hlt2' : ¬ (j : Int) < 9 := by omega
                  have HB15 := Lib.hid (HB9.out.trans (HBJ.out.mono HB9.out.size))
                  go_wp2_with fail
                  go_roundg (256 - (i + 1))
                  case measure => omega
                  case rel => exact ⟨i + 1, by omega, rfl, by go_num, HB15.out⟩
      · have hlt' : ¬ (i : Int) < 256 := by omega
        go_wp2_with fail
        go_meet
        exact HBR.out
  case rest =>
    obtain ⟨w1, hw1⟩ : ∃ W, W = wc := ⟨_, rfl⟩
    subst hw1
    have HB1 := Lib.hid hcut
    clear hcut
    go_upto_region 17 with fail
    go_cut [7] (fun v wx => ∃ B : Nat, v = .slice (some ⟨B, 0, none⟩) 16 16 ∧ IntsOk wx B 16 ∧ Below w.heap.size w wx)
    case first =>
      go_wp2_with fail
      go_meet
      exact ⟨_, rfl, ints_alloc w1 [-9223372036854775808, -1, 0, 127, 128, 2047, 2048, 55295, 55296, 57343, 57344, 65535, 65536, 1114111, 1114112, 9223372036854775807] 3, HB1.out.alloc HB1.out.size _⟩
    case rest =>
      obtain ⟨B, rfl, hs, hb⟩ := hcut
      obtain ⟨w2, hw2⟩ : ∃ W, W = wc := ⟨_, rfl⟩
      subst hw2
      have HS := Lib.hid hs
      have HB2 := Lib.hid hb
      clear hs hb
      go_upto_block 6 with fail
      go_cut [8] (fun v wx => Below w.heap.size w wx)
      case first =>
        go_wp2_with fail
        go_loopg [8] 16 (fun g v wr => ∃ j : Nat, j ≤ 16 ∧ g = 16 - j ∧ v = .int .i64 j ∧ Below w2.heap.size w2 wr)
        case atStart => exact ⟨0, by omega, rfl, rfl, Below.refl _ _⟩
        case round =>
          obtain ⟨j, hj, rfl, rfl, hbr⟩ := hrel
          have HBJ := Lib.hid hbr
          clear hbr
          by_cases hlt2 : j < 16
          · have hlt2' : (j : Int) < 16 := by omega
            have hj0 : (0 : Int) ≤ (j : Int) := by omega
            have HBW := Lib.hid (HB2.out.trans (HBJ.out.mono HB2.out.size))
            have hA := Lib.hid (HBW.out.alloc HBW.out.size (.cells #[.int .u8 1] 5))
            have hJ1 := Lib.hid (HBJ.out.alloc HBJ.out.size (.cells #[.int .u8 1] 5))
            obtain ⟨z, hc⟩ := (HS.out.below hJ1.out).2 j hlt2
            have hbs : Bs (wr.alloc (.cells #[.int .u8 1] 5)) 0 (wr.alloc (.cells #[.int .u8 1] 5)).heap.size (some ⟨wr.heap.size, 0, none⟩) 1 1 [1] := (Bs.single wr 1 (by omega) (by omega)).mono (Nat.zero_le _) (by rw [World.size_alloc]; exact Nat.le_refl _)
            have h3 := Lib.hid (lrunes_any z m hbs (HM.out _ hA.out))
            clear hbs
            go_wp2_with fail
            refine (h3.out).mono ?_
            rintro e w3 ⟨rfl, hb3⟩
            have HJ3 := Lib.hid (hJ1.out.trans (hb3.mono hJ1.out.size))
            clear hb3 h3 hc
            go_wp2_with fail
            go_roundg (16 - (j + 1))
            case measure => omega
            case rel => exact ⟨j + 1, by omega, rfl, by go_num, HJ3.out⟩
          · have hlt2' : ¬ (j : Int) < 16 := by omega
            go_wp2_with fail
            go_meet
            exact HB2.out.trans (HBJ.out.mono HB2.out.size)
      case rest =>
        obtain ⟨w4, hw4⟩ : ∃ W, W = wc := ⟨_, rfl⟩
        subst hw4
        have HB4 := Lib.hid hcut
        clear hcut HS HB2 HB1
        go_upto_region 23 with fail
        go_cut [9] (fun v wx => ∃ lb : ByteArray, v = .string lb ∧ lb.size = 32 ∧ w4 = wx)
        case first =>
          go_wp2_with fail
          go_meet
          exact ⟨_, rfl, rfl, rfl⟩
        case rest =>
          obtain ⟨lb, rfl, hlb, rfl⟩ := hcut
          obtain ⟨fA, a1, z1⟩ := str_add2 lb ⟨#[46]⟩ 33 (by show lb.size + 1 ≤ 33; omega) (by omega)
          obtain ⟨fB, a2, z2⟩ := str_add2 fA lb 65 (by omega) (by omega)
          obtain ⟨fC, a3, z3⟩ := str_add2 fB ⟨#[46]⟩ 66 (by show fB.size + 1 ≤ 66; omega) (by omega)
          obtain ⟨fD, a4, z4⟩ := str_add2 fC lb 98 (by omega) (by omega)
          obtain ⟨fE, a5, z5⟩ := str_add2 fD ⟨#[46]⟩ 99 (by show fD.size + 1 ≤ 99; omega) (by omega)
          obtain ⟨gA, b1, y1⟩ := str_add2 lb ⟨#[103]⟩ 33 (by show lb.size + 1 ≤ 33; omega) (by omega)
          have e29 : (lb.extract 0 29).size ≤ 29 := by simp [ByteArray.size_extract]; omega
          have e30 : (lb.extract 0 30).size ≤ 30 := by simp [ByteArray.size_extract]; omega
          obtain ⟨gB, b2, y2⟩ := str_add2 fE (lb.extract 0 29) 128 (by omega) (by omega)
          obtain ⟨gC, b3, y3⟩ := str_add2 fE (lb.extract 0 30) 129 (by omega) (by omega)
          have l29 : (29 : Int) ≤ (lb.size : Int) := by omega
          have l30 : (30 : Int) ≤ (lb.size : Int) := by omega
          have HLB := Lib.hid hlb
          clear hlb e29 e30
          go_upto_region 25 with fail
          go_cut [11] (fun v wx => ∃ B : Nat, v = .slice (some ⟨B, 0, none⟩) 13 13 ∧ StrsOk wx B 13 ∧ Below w.heap.size w wx)
          case first =>
            have HB5 := Lib.hid HB4.out.drew
            go_still_tail 11, (by kernel_rfl)
            change wpList _ _ _ _ _ w4.drew
            generalize w4.drew = W2 at *
            go_wp2_with fail
            go_meet
            exact ⟨_, rfl, strs_alloc W2 [⟨#[]⟩, lb, gA, gB, gC, ⟨#[46]⟩, ⟨#[97, 46]⟩, ⟨#[46, 97]⟩, ⟨#[34]⟩, ⟨#[39, 39]⟩, ⟨#[34, 92, 85, 48, 48, 49, 49, 48, 48, 48, 48, 34]⟩, ⟨#[34, 92, 117, 100, 56, 48, 48, 34]⟩, ⟨#[34, 92, 51, 55, 55, 92, 120, 48, 34]⟩] 9 (by
              intro x hx
              simp only [List.mem_cons, List.mem_nil_iff, or_false] at hx
              have := HLB.out
              rcases hx with rfl | rfl | rfl | rfl | rfl | rfl | rfl | rfl | rfl | rfl | rfl | rfl | rfl <;> first | omega | decide), HB5.out.alloc HB5.out.size _⟩
          case rest =>
            clear a1 a2 a3 a4 a5 b1 b2 b3 z1 z2 z3 z4 z5 y1 y2 y3
            obtain ⟨B6, rfl, hs, hb⟩ := hcut
            obtain ⟨w6, hw6⟩ : ∃ W, W = wc := ⟨_, rfl⟩
            subst hw6
            have HS := Lib.hid hs
            have HB6 := Lib.hid hb
            clear hs hb
            go_upto_block 8 with fail
            go_cut [12] (fun v wx => Below w.heap.size w wx)
            case first =>
              go_wp2_with fail
              go_loopg [12] 13 (fun g v wr => ∃ j : Nat, j ≤ 13 ∧ g = 13 - j ∧ v = .int .i64 j ∧ Below w6.heap.size w6 wr)
              case atStart => exact ⟨0, by omega, rfl, rfl, Below.refl _ _⟩
              case round =>
                obtain ⟨j, hj, rfl, rfl, hbr⟩ := hrel
                have HBJ := Lib.hid hbr
                clear hbr
                by_cases hlt2 : j < 13
                · have hlt2' : (j : Int) < 13 := by omega
                  have hj0 : (0 : Int) ≤ (j : Int) := by omega
                  obtain ⟨t, hc, htz⟩ := (HS.out.below HBJ.out).2 j hlt2
                  have hlt3 := (HS.out.below HBJ.out).1
                  have HC := Lib.hid hc
                  have HBW := Lib.hid (HB6.out.trans (HBJ.out.mono HB6.out.size))
                  have h3 := Lib.hid (names_any t wr m (by unfold maxLen; omega) (HM.out _ HBW.out))
                  go_wp2_with fail
                  refine (h3.out).mono ?_
                  rintro e w7 ⟨rfl, hb7⟩
                  have HB7 := Lib.hid (HBW.out.trans (hb7.mono HBW.out.size))
                  have HJ7 := Lib.hid (HBJ.out.trans (hb7.mono HBJ.out.size))
                  have hc7 := (hb7.cell (p := ⟨B6, j, none⟩) hlt3).trans HC.out
                  have h5 := Lib.hid (quotes_any t m (Bs.none_ w7 0 w7.heap.size none (c := 0) (by decide)) (by unfold maxLen; omega) (HM.out _ HB7.out))
                  clear hb7 h3 hc hlt3
                  go_wp2_with fail
                  refine (h5.out).mono ?_
                  rintro e w8 ⟨rfl, hb8⟩
                  have HJ8 := Lib.hid (HJ7.out.trans (hb8.mono HJ7.out.size))
                  clear hb8 h5 hc7
                  go_wp2_with fail
                  go_roundg (13 - (j + 1))
                  case measure => omega
                  case rel => exact ⟨j + 1, by omega, rfl, by go_num, HJ8.out⟩
                · have hlt2' : ¬ (j : Int) < 13 := by omega
                  go_wp2_with fail
                  go_meet
                  exact HB6.out.trans (HBJ.out.mono HB6.out.size)
            case rest =>
              have HB9 := Lib.hid hcut
              have hwk := Lib.hid (works_any wc m (HM.out _ hcut))
              clear hcut
              go_wp2_with fail
              refine (hwk.out).mono ?_
              rintro e w9 ⟨rfl, hb9⟩
              have HB10 := Lib.hid (HB9.out.trans (hb9.mono HB9.out.size))
              clear hb9
              go_wp2_with fail
              go_ret
              exact ⟨rfl, HB10.out⟩
end Go.Proofs.YtjophmgpknpboaaDoor
