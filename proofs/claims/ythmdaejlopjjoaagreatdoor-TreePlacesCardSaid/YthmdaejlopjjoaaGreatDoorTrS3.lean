/-
  tree: the places of a file: the walk of the law.
-/
import Derived.Test.YthmdaejlopjjoaaGreatDoorTrS2
namespace Go.Proofs.YthmdaejlopjjoaaGreatDoor
open Go.RowKit
set_option linter.unusedVariables false
set_option linter.unusedSimpArgs false

set_option maxRecDepth 100000 in
set_option maxHeartbeats 1000000 in
theorem cut_any (s : ByteArray) (w : World) : Calls Tryz.prog 9 #[.string s] w fun e w' => (∃ t : ByteArray, e = .returned (.string t) ∧ t.size ≤ 3000) ∧ w' = w := by
  go_enter Tryz.func9, Tryz.ntmps9
  go_wp2_with fail
  refine bodyPost_ret (v := .string (s.extract 0 (min (s.size : Int) 3000).toNat)) (by simp [results, Tryz.results9, go_sem]) rfl ⟨⟨_, rfl, ?_⟩, rfl⟩
  rw [ByteArray.size_extract]
  omega
theorem Kn.cell {a b : World} (h : Kn a b) {g : Nat} (hg : g < a.heap.size) (i : Nat) : b.cell? ⟨g, i, none⟩ = a.cell? ⟨g, i, none⟩ := by
  have := h.block g hg (fun f => f)
  unfold World.cell?
  simp only [this]
theorem Tr.rows {w : World} {B : Nat} {x : Tr} {v0 v1 v2 v3 v4 : Value} {F : List Nat} (h : MemL w B (Tr.dv Ty0 x) [v0, v1, v2, v3, v4] F) : ∃ F1 F2 F3, Mem w B (lsD 37 3 Im.dv x.imps) v1 F1 ∧ Mem w B (.sl 49 8 x.msgs.length (msL Ty0 x.msgs)) v2 F2 ∧ Mem w B (lsD 52 5 (En.dv Ty0) x.enums) v3 F3 := by
  unfold Tr.dv at h
  cases h with
  | cons d v0 F ds vs G h0 h =>
  cases h with
  | cons d v1 F1 ds vs G h1 h =>
  cases h with
  | cons d v2 F2 ds vs G h2 h =>
  cases h with
  | cons d v3 F3 ds vs G h3 h =>
  exact ⟨F1, F2, F3, h1, by rw [msL_eq]; exact h2, h3⟩
theorem EnUp.low {s : ByteArray} {n b b' : Int} (hb : b' ≤ b) : ∀ {l : List En}, EnUp s b l n → EnUp s b' l n
  | [], h => by unfold EnUp at h ⊢; omega
  | x :: l, h => ⟨by have := h.1; omega, h.2⟩
theorem Vl.three {w : World} {B : Nat} {x : Vl} {xs : List Value} {F : List Nat} (h : MemL w B (Vl.dv x) xs F) : xs = [.string x.name, .int .i64 x.num, .int .i64 x.at_] := by
  cases h with
  | cons d v F ds vs G h0 h =>
  cases h with
  | cons d v F ds vs G h1 h =>
  cases h with
  | cons d v F ds vs G h2 h =>
  cases h with
  | nil =>
  rw [h0.val_at, h1.val_at, h2.val_at]
theorem vls_at {w : World} {B : Nat} {l : List Vl} {A : Option Addr} {c : Nat} {F : List Nat} (h : Mem w B (lsD 55 3 Vl.dv l) (.slice A l.length c) F) {i : Nat} (hi : i < l.length) :
    ∃ g, A = some ⟨g, 0, none⟩ ∧ ∀ j, j < 3 → w.cell? ⟨g, i * 3 + j, none⟩ = (let x := l[i]; ([.string x.name, .int .i64 x.num, .int .i64 x.at_] : List Value))[j]? := by
  obtain ⟨g, cap, xs, F', e, hg, hml, hc⟩ := h.cells (by omega)
  injection e with e1 e2 e3
  refine ⟨g, e1, fun j hj => ?_⟩
  obtain ⟨ys, G, h1, h2⟩ := MemL.at_ (k := 3) (fun a => rfl) i hi hml
  have hl : xs.length = l.length * 3 := by rw [MemL.len hml]; exact flat_len (k := 3) (f := Vl.dv) (fun a => rfl) l
  rw [hc _ (by omega), h2 j hj, Vl.three h1]
theorem ims_at {w : World} {B : Nat} {l : List Im} {A : Option Addr} {c : Nat} {F : List Nat} (h : Mem w B (lsD 37 3 Im.dv l) (.slice A l.length c) F) {i : Nat} (hi : i < l.length) :
    ∃ g, A = some ⟨g, 0, none⟩ ∧ ∀ j, j < 3 → w.cell? ⟨g, i * 3 + j, none⟩ = (let x := l[i]; ([.string x.path, .bool x.pub, .int .i64 x.at_] : List Value))[j]? := by
  obtain ⟨g, cap, xs, F', e, hg, hml, hc⟩ := h.cells (by omega)
  injection e with e1 e2 e3
  refine ⟨g, e1, fun j hj => ?_⟩
  obtain ⟨ys, G, h1, h2⟩ := MemL.at_ (k := 3) (fun a => rfl) i hi hml
  have hl : xs.length = l.length * 3 := by rw [MemL.len hml]; exact flat_len (k := 3) (f := Im.dv) (fun a => rfl) l
  have h3 := Im.three (w := w) (x := l[i]) (xs := ys) (F := G) (B := B) (by simpa using h1)
  rw [hc _ (by omega), h2 j hj, h3]
theorem En.five {w : World} {B : Nat} {x : En} {xs : List Value} {F : List Nat} (h : MemL w B (En.dv Ty0 x) xs F) : ∃ A2 c2 A3 c3 A4 c4 F2, xs = [.string x.name, .int .i64 x.at_, .slice A2 x.vals.length c2, .slice A3 x.rngs.length c3, .slice A4 x.nams.length c4] ∧ Mem w B (lsD 55 3 Vl.dv x.vals) (.slice A2 x.vals.length c2) F2 := by
  unfold En.dv at h
  cases h with
  | cons d v0 F0 ds vs G h0 h =>
  cases h with
  | cons d v1 F1 ds vs G h1 h =>
  cases h with
  | cons d v2 F2 ds vs G h2 h =>
  cases h with
  | cons d v3 F3 ds vs G h3 h =>
  cases h with
  | cons d v4 F4 ds vs G h4 h =>
  cases h with
  | nil =>
  obtain ⟨A2, c2, rfl⟩ := h2.val_sl
  obtain ⟨A3, c3, rfl⟩ := h3.val_sl
  obtain ⟨A4, c4, rfl⟩ := h4.val_sl
  obtain rfl := h0.val_at
  obtain rfl := h1.val_at
  exact ⟨A2, c2, A3, c3, A4, c4, F2, rfl, h2⟩
theorem ens_at {w : World} {B : Nat} {l : List En} {A : Option Addr} {c : Nat} {F : List Nat} (h : Mem w B (lsD 52 5 (En.dv Ty0) l) (.slice A l.length c) F) {i : Nat} (hi : i < l.length) :
    ∃ g A2 c2 A3 c3 A4 c4 F2, A = some ⟨g, 0, none⟩ ∧ Mem w B (lsD 55 3 Vl.dv l[i].vals) (.slice A2 l[i].vals.length c2) F2 ∧ ∀ j, j < 5 → w.cell? ⟨g, i * 5 + j, none⟩ = (let x := l[i]; ([.string x.name, .int .i64 x.at_, .slice A2 x.vals.length c2, .slice A3 x.rngs.length c3, .slice A4 x.nams.length c4] : List Value))[j]? := by
  obtain ⟨g, cap, xs, F', e, hg, hml, hc⟩ := h.cells (by omega)
  injection e with e1 e2 e3
  obtain ⟨ys, G, h1, h2⟩ := MemL.at_ (k := 5) (fun a => rfl) i hi hml
  have hl : xs.length = l.length * 5 := by rw [MemL.len hml]; exact flat_len (k := 5) (f := En.dv Ty0) (fun a => rfl) l
  obtain ⟨A2, c2, A3, c3, A4, c4, F2, e5, hv⟩ := En.five h1
  exact ⟨g, A2, c2, A3, c3, A4, c4, F2, e1, hv, fun j hj => by rw [hc _ (by omega), h2 j hj, e5]⟩
/-- What Parse answers, as the law asks it. -/
def PlP (w : World) (t : ByteArray) (e : Ending) (w' : World) : Prop := Below w.heap.size w w' ∧
  ((∃ p c : Nat, c ≠ 0 ∧ p ≤ t.size ∧ e = .returned (.tuple #[.agg #[.string ⟨#[]⟩, .slice none 0 0, .slice none 0 0, .slice none 0 0, .slice none 0 0], .int .i64 p, .int .i64 c])) ∨
   ∃ (x : Tr) (n p : Nat) (A1 A2 A3 A4 : Option Addr) (c1 c2 c3 c4 : Nat) (F : List Nat), TrZ t x n ∧ e = .returned (.tuple #[.agg #[.string x.pkg, .slice A1 x.imps.length c1, .slice A2 x.msgs.length c2, .slice A3 x.enums.length c3, .slice A4 x.svcs.length c4], .int .i64 p, .int .i64 0]) ∧ MemL w' w.heap.size (Tr.dv Ty0 x) (#[.string x.pkg, .slice A1 x.imps.length c1, .slice A2 x.msgs.length c2, .slice A3 x.enums.length c3, .slice A4 x.svcs.length c4] : Array Value).toList F)
theorem mem_nil (w : World) (B t k : Nat) : Mem w B (.sl t k 0 []) (.slice none 0 0) [] := .sl t k 0 [] _ [] [] ⟨by simp, .inl ⟨rfl, rfl⟩⟩ .nil
theorem parse_pl (t : ByteArray) (w : World) (hE : Env w) (ht : t.size ≤ 65536) : Calls Tryz.prog 22 #[.string t] w (PlP w t) := by
  have hz := parse_z (s := t) ht
  refine (parse_any t w hE (by omega)).mono ?_
  generalize parseR t = R at *
  cases R with
  | no p c =>
    rintro e w2 ⟨rfl, hb⟩
    refine ⟨hb, ?_⟩
    by_cases hc : c = 0
    · subst hc
      right
      refine ⟨⟨kNone, [], [], [], []⟩, 0, p, none, none, none, none, 0, 0, 0, 0, [], TrZ.zero _, rfl, ?_⟩
      exact .cons _ _ [] _ _ [] (.at_ _ rfl) (.cons _ _ [] _ _ [] (mem_nil ..) (.cons _ _ [] _ _ [] (mem_nil ..) (.cons _ _ [] _ _ [] (mem_nil ..) (.cons _ _ [] _ _ [] (mem_nil ..) .nil))))
    · exact .inl ⟨p, c, hc, hz, rfl⟩
  | ok x l =>
    rintro e w2 ⟨vs, F, rfl, hm, hb⟩
    obtain ⟨n, h1, h2, h3⟩ := hz
    obtain ⟨A1, c1, A2, c2, A3, c3, A4, c4, hvs⟩ := Tr.five hm
    obtain rfl : vs = #[.string x.pkg, .slice A1 x.imps.length c1, .slice A2 x.msgs.length c2, .slice A3 x.enums.length c3, .slice A4 x.svcs.length c4] := by rw [← Array.toArray_toList (xs := vs), hvs]
    exact ⟨hb, .inr ⟨x, n, 0, A1, A2, A3, A4, c1, c2, c3, c4, F, h3, rfl, hm⟩⟩
set_option maxRecDepth 100000 in
set_option maxHeartbeats 4000000 in
theorem places_any (s : ByteArray) (w : World) (hE : Env w) : Calls Tryz.prog 5 #[.string s] w fun e w' => e = .returned (.bool true) ∧ Below w.heap.size w w' := by
  have HE := Lib.hid hE
  clear hE
  go_enter Tryz.func5, Tryz.ntmps5
  go_wp2_with fail
  refine (cut_any s _).mono ?_
  rintro e w1 ⟨⟨t, rfl, ht⟩, rfl⟩
  go_wp2_with fail
  refine (parse_pl t _ HE.out (by omega)).mono ?_
  rintro e w2 ⟨hb, ⟨p, c, hc, hp, rfl⟩ | ⟨x, n, p, A1, A2, A3, A4, c1, c2, c3, c4, F, hz, rfl, hm⟩⟩
  · have HB := Lib.hid (hb.alloc hb.size (.cells #[.string ⟨#[]⟩, .slice none 0 0, .slice none 0 0, .slice none 0 0, .slice none 0 0] 27))
    clear hb
    have hc' : ¬ (c : Int) = 0 := by omega
    have hp' : ¬ (p : Int) < 0 := by omega
    go_wp2_with fail
    refine (works_any _ (HE.out.below HB.out)).mono ?_
    rintro e w3 ⟨rfl, hb3⟩
    have HB3 := Lib.hid (HB.out.trans (hb3.mono HB.out.size))
    clear hb3
    go_wp2_with fail
    refine bodyPost_ret (v := .bool true) (by simp [results, Tryz.results5, go_sem]) rfl ⟨rfl, HB3.out⟩
  · obtain ⟨F1, F2, F3, m1, m2, m3⟩ := Tr.rows hm
    have HM1 := Lib.hid (Mem.stays m1 (w' := w2.alloc (.cells #[.string x.pkg, .slice A1 x.imps.length c1, .slice A2 x.msgs.length c2, .slice A3 x.enums.length c3, .slice A4 x.svcs.length c4] 27)) fun g hg => (((Kp.refl (fun _ => False) w2).alloc (.cells #[.string x.pkg, .slice A1 x.imps.length c1, .slice A2 x.msgs.length c2, .slice A3 x.enums.length c3, .slice A4 x.svcs.length c4] 27)).block g (Mem.lt m1 g hg).2 (fun f => f)))
    have HM2 := Lib.hid (Mem.stays m2 (w' := w2.alloc (.cells #[.string x.pkg, .slice A1 x.imps.length c1, .slice A2 x.msgs.length c2, .slice A3 x.enums.length c3, .slice A4 x.svcs.length c4] 27)) fun g hg => (((Kp.refl (fun _ => False) w2).alloc (.cells #[.string x.pkg, .slice A1 x.imps.length c1, .slice A2 x.msgs.length c2, .slice A3 x.enums.length c3, .slice A4 x.svcs.length c4] 27)).block g (Mem.lt m2 g hg).2 (fun f => f)))
    have HM3 := Lib.hid (Mem.stays m3 (w' := w2.alloc (.cells #[.string x.pkg, .slice A1 x.imps.length c1, .slice A2 x.msgs.length c2, .slice A3 x.enums.length c3, .slice A4 x.svcs.length c4] 27)) fun g hg => (((Kp.refl (fun _ => False) w2).alloc (.cells #[.string x.pkg, .slice A1 x.imps.length c1, .slice A2 x.msgs.length c2, .slice A3 x.enums.length c3, .slice A4 x.svcs.length c4] 27)).block g (Mem.lt m3 g hg).2 (fun f => f)))
    have HZI := Lib.hid hz.imps
    have HZM := Lib.hid hz.msgs
    have HZE := Lib.hid hz.enums
    have HBL := Lib.hid (Blk.new w2 27 #[.string x.pkg, .slice A1 x.imps.length c1, .slice A2 x.msgs.length c2, .slice A3 x.enums.length c3, .slice A4 x.svcs.length c4])
    have HB := Lib.hid (hb.alloc hb.size (.cells #[.string x.pkg, .slice A1 x.imps.length c1, .slice A2 x.msgs.length c2, .slice A3 x.enums.length c3, .slice A4 x.svcs.length c4] 27))
    clear hm m1 m2 m3 hz hb
    go_wp2_with fail
    generalize World.alloc w2 _ = w3 at *
    generalize w2.heap.size = b at *
    go_loopg [6, 7] x.msgs.length (fun g v6 v7 wr => ∃ (i : Nat) (la : Int), i ≤ x.msgs.length ∧ g = x.msgs.length - i ∧ v7 = .int .i64 i ∧ v6 = .int .i64 la ∧ MsUp t (la + 1) (x.msgs.drop i) n ∧ Kn w3 wr)
    case atStart => exact ⟨0, -1, Nat.zero_le _, rfl, rfl, rfl, HZM.out, Kp.refl _ _⟩
    case round =>
      obtain ⟨i, la, hi, rfl, rfl, rfl, hup, hkr⟩ := hrel
      have HKR := Lib.hid hkr
      have HBR := Lib.hid (HBL.out.kp hkr (fun f => f))
      have HUP := Lib.hid hup
      have q2 := HBR.out.cell 2
      simp only [List.getElem?_toArray, List.getElem?_cons_zero, List.getElem?_cons_succ] at q2
      clear hkr hup
      by_cases hil : i < x.msgs.length
      · obtain ⟨g, ys, G, rfl, hml, hcell⟩ := msgs_at (Mem.stays HM2.out fun g hg => HKR.out.block g (Mem.lt HM2.out g hg).2 (fun f => f)) hil
        have hd : x.msgs.drop i = x.msgs[i] :: x.msgs.drop (i + 1) := List.drop_eq_getElem_cons hil
        obtain ⟨y2, G2, B3, d3, B4, d4, B5, d5, B6, d6, B7, d7, rfl, hfl2⟩ := Ms.eight hml
        obtain ⟨B2, d2, rfl⟩ := hfl2.val_sl
        generalize hx : x.msgs[i] = y at *
        have HUP2 := Lib.hid (show la + 1 ≤ y.at_ ∧ MsAt t y ∧ MsUp t (y.at_ + 1) (x.msgs.drop (i + 1)) n by have := HUP.out; rw [hd] at this; exact this)
        have r0 := hcell 0 (by decide)
        have r1 := hcell 1 (by decide)
        have r2 := hcell 2 (by decide)
        have r3 := hcell 3 (by decide)
        have r4 := hcell 4 (by decide)
        have r5 := hcell 5 (by decide)
        have r6 := hcell 6 (by decide)
        have r7 := hcell 7 (by decide)
        simp only [List.getElem?_cons_zero, List.getElem?_cons_succ, Nat.add_zero] at r0 r1 r2 r3 r4 r5 r6 r7
        clear hcell hfl2 hd HUP
        have hil' : (i : Int) < (x.msgs.length : Int) := by omega
        have hil2 : (x.msgs.length : Int) ≤ 9223372036854775807 := by have := HM2.out.sl_len; unfold maxLen at this; omega
        have HC := Lib.hid (fields_any t (by omega) _ HUP2.out.2.1 _ _ _ la (HE.out.below (HB.out.trans (Kp.to_below HKR.out (fun k f => f.elim) HB.out.size))) hml (by have := HUP2.out.1; omega))
        clear hml
        go_wp2_with fail
        refine HC.out.mono ?_
        rintro e w4 ⟨rfl, hk4⟩
        have HK4 := Lib.hid hk4
        have HBR4 := Lib.hid (HBR.out.kp hk4 (fun f => f))
        have r1' := (Kn.cell hk4 (World.block_lt_of_cell? _ _ r1) (i * 8 + 1)).trans r1
        have q2' := HBR4.out.cell 2
        simp only [List.getElem?_toArray, List.getElem?_cons_zero, List.getElem?_cons_succ] at q2'
        clear hk4 r0 r1 r2 r3 r4 r5 r6 r7 q2
        go_wp2_with fail
        go_roundg (x.msgs.length - (i + 1))
        case measure => omega
        case rel => exact ⟨i + 1, y.at_, by omega, rfl, by go_num, rfl, HUP2.out.2.2, HKR.out.trans HK4.out⟩
      · go_wp2_with fail
        clear q2
        have HK5 := HKR
        clear HUP
        go_loopg [6, 8] x.enums.length (fun g v6 v8 wr2 => ∃ (k : Nat) (la : Int), k ≤ x.enums.length ∧ g = x.enums.length - k ∧ v8 = .int .i64 k ∧ v6 = .int .i64 la ∧ EnUp t (la + 1) (x.enums.drop k) n ∧ Kn w3 wr2)
        case atStart => exact ⟨0, -1, Nat.zero_le _, rfl, rfl, rfl, HZE.out, HKR.out⟩
        case round =>
          obtain ⟨k, lb, hk, rfl, rfl, rfl, hup, hkr⟩ := hrel
          clear HKR HBR
          have HKR := Lib.hid hkr
          have HBR := Lib.hid (HBL.out.kp hkr (fun f => f))
          have HUP := Lib.hid hup
          have q3 := HBR.out.cell 3
          simp only [List.getElem?_toArray, List.getElem?_cons_zero, List.getElem?_cons_succ] at q3
          clear hkr hup
          by_cases hkl : k < x.enums.length
          · obtain ⟨g, B2, d2, B3, d3, B4, d4, G2, rfl, hvl, hcell⟩ := ens_at (Mem.stays HM3.out fun g hg => HKR.out.block g (Mem.lt HM3.out g hg).2 (fun f => f)) hkl
            have hd : x.enums.drop k = x.enums[k] :: x.enums.drop (k + 1) := List.drop_eq_getElem_cons hkl
            generalize hx : x.enums[k] = y at *
            obtain ⟨u1, u2, b', u3, u4⟩ : lb + 1 ≤ y.at_ ∧ startsB t y.at_ y.name = true ∧ ∃ b', VlUp t y.at_ y.vals b' ∧ EnUp t b' (x.enums.drop (k + 1)) n := by have := HUP.out; rw [hd] at this; exact this
            have r0 := hcell 0 (by decide)
            have r1 := hcell 1 (by decide)
            have r2 := hcell 2 (by decide)
            have r3 := hcell 3 (by decide)
            have r4 := hcell 4 (by decide)
            simp only [List.getElem?_cons_zero, List.getElem?_cons_succ, Nat.add_zero] at r0 r1 r2 r3 r4
            have HVL := Lib.hid (Mem.stays hvl (w' := wr.alloc (.cells #[.string y.name, .int .i64 y.at_, .slice B2 y.vals.length d2, .slice B3 y.rngs.length d3, .slice B4 y.nams.length d4] 52)) fun g hg => (((Kp.refl (fun _ => False) wr).alloc (.cells #[.string y.name, .int .i64 y.at_, .slice B2 y.vals.length d2, .slice B3 y.rngs.length d3, .slice B4 y.nams.length d4] 52)).block g (Mem.lt hvl g hg).2 (fun f => f)))
            have HUV := Lib.hid u3
            have HUE := Lib.hid u4
            clear hcell hd HUP u3 u4 hvl
            have hkl' : (k : Int) < (x.enums.length : Int) := by omega
            have hkl2 : (x.enums.length : Int) ≤ 9223372036854775807 := by have := HM3.out.sl_len; unfold maxLen at this; omega
            have hno : ¬ y.at_ ≤ lb := by omega
            go_wp2_with fail
            refine (starts_any t _ _ _ (by omega)).mono ?_
            rintro e w4 ⟨rfl, rfl⟩
            rw [u2]
            go_wp2_with fail
            have HBM := Lib.hid (Blk.new wr 52 #[.string y.name, .int .i64 y.at_, .slice B2 y.vals.length d2, .slice B3 y.rngs.length d3, .slice B4 y.nams.length d4])
            have HKM := Lib.hid (HKR.out.alloc (.cells #[.string y.name, .int .i64 y.at_, .slice B2 y.vals.length d2, .slice B3 y.rngs.length d3, .slice B4 y.nams.length d4] 52))
            clear r0 r1 r2 r3 r4 q3 HKR HBR
            generalize World.alloc wr _ = w4 at *
            generalize wr.heap.size = bm at *
            go_loopg [6, 10] y.vals.length (fun g v6 v10 wr3 => ∃ (j : Nat) (lc : Int), j ≤ y.vals.length ∧ g = y.vals.length - j ∧ v10 = .int .i64 j ∧ v6 = .int .i64 lc ∧ VlUp t lc (y.vals.drop j) b' ∧ Kn w4 wr3)
            case atStart => exact ⟨0, y.at_, Nat.zero_le _, rfl, rfl, rfl, HUV.out, Kp.refl _ _⟩
            case round =>
              obtain ⟨j, lc, hj, rfl, rfl, rfl, hup, hkr⟩ := hrel
              have HKR := Lib.hid hkr
              have HBR := Lib.hid (HBM.out.kp hkr (fun f => f))
              have HUP := Lib.hid hup
              have q2 := HBR.out.cell 2
              simp only [List.getElem?_toArray, List.getElem?_cons_zero, List.getElem?_cons_succ] at q2
              clear hkr hup
              by_cases hjl : j < y.vals.length
              · obtain ⟨g, rfl, hcell⟩ := vls_at (Mem.stays HVL.out fun g hg => HKR.out.block g (Mem.lt HVL.out g hg).2 (fun f => f)) hjl
                have hd : y.vals.drop j = y.vals[j] :: y.vals.drop (j + 1) := List.drop_eq_getElem_cons hjl
                generalize hx2 : y.vals[j] = z at *
                obtain ⟨u1', u2', u3'⟩ : lc < z.at_ ∧ startsB t z.at_ z.name = true ∧ VlUp t z.at_ (y.vals.drop (j + 1)) b' := by have := HUP.out; rw [hd] at this; exact this
                have r0 := hcell 0 (by decide)
                have r2 := hcell 2 (by decide)
                simp only [List.getElem?_cons_zero, List.getElem?_cons_succ, Nat.add_zero] at r0 r2
                have HUV2 := Lib.hid u3'
                clear hcell hd HUP u3'
                have hjl' : (j : Int) < (y.vals.length : Int) := by omega
                have hjl2 : (y.vals.length : Int) ≤ 9223372036854775807 := by have := HVL.out.sl_len; unfold maxLen at this; omega
                have hno' : ¬ z.at_ ≤ lc := by omega
                go_wp2_with fail
                have HST := Lib.hid (fun m => (starts_any t z.at_ z.name (wr.drewN m) (by omega)).mono (R' := fun e w' => e = .returned (.bool true) ∧ w' = wr.drewN m) fun e w' h => ⟨by rw [h.1, u2'], h.2.symm⟩)
                go_quiet ((go_at_call 24; exact Calls.quiet_of_same (HST.out _)))
                go_wp2_with fail
                go_roundg (y.vals.length - (j + 1))
                case measure => omega
                case rel => exact ⟨j + 1, z.at_, by omega, rfl, by go_num, rfl, HUV2.out, HKR.out.drewN _⟩
              · go_wp2_with fail
                have hj' : y.vals.length ≤ j := by omega
                have hlc : lc < b' := by have := HUP.out; rw [List.drop_eq_nil_of_le hj'] at this; exact this
                go_roundg (x.enums.length - (k + 1))
                case measure => omega
                case rel => exact ⟨k + 1, lc, by omega, rfl, by go_num, rfl, EnUp.low (by omega) HUE.out, HKM.out.trans HKR.out⟩
          · go_wp2_with fail
            clear q3 HUP
            go_loopg [11] x.imps.length (fun g v wr3 => ∃ j : Nat, j ≤ x.imps.length ∧ g = x.imps.length - j ∧ v = .int .i64 j ∧ Kn w3 wr3)
            case atStart => exact ⟨0, Nat.zero_le _, rfl, rfl, HKR.out⟩
            case round =>
              obtain ⟨j, hj, rfl, rfl, hkr⟩ := hrel
              clear HKR HBR
              have HKR := Lib.hid hkr
              have HBR := Lib.hid (HBL.out.kp hkr (fun f => f))
              have q1 := HBR.out.cell 1
              simp only [List.getElem?_toArray, List.getElem?_cons_zero, List.getElem?_cons_succ] at q1
              clear hkr
              by_cases hjl : j < x.imps.length
              · obtain ⟨g, rfl, hcell⟩ := ims_at (Mem.stays HM1.out fun g hg => HKR.out.block g (Mem.lt HM1.out g hg).2 (fun f => f)) hjl
                have hqx := HZI.out x.imps[j] (List.getElem_mem hjl)
                generalize hx : x.imps[j] = z at *
                have r2 := hcell 2 (by decide)
                simp only [List.getElem?_cons_zero, List.getElem?_cons_succ] at r2
                have HQX := Lib.hid hqx
                clear hcell hqx
                have hjl' : (j : Int) < (x.imps.length : Int) := by omega
                have hjl2 : (x.imps.length : Int) ≤ 9223372036854775807 := by have := HM1.out.sl_len; unfold maxLen at this; omega
                go_wp2_with fail
                refine (starts_any t _ _ _ (by omega)).mono ?_
                rintro e w5 ⟨rfl, rfl⟩
                cases hb1 : startsB t z.at_ ⟨#[34]⟩
                · have hb2 : startsB t z.at_ ⟨#[39]⟩ = true := by
                    have := HQX.out
                    unfold quoteAt at this
                    rw [hb1] at this
                    simpa using this
                  go_wp2_with fail
                  refine (starts_any t _ _ _ (by omega)).mono ?_
                  rintro e w5 ⟨rfl, rfl⟩
                  simp only [hb2]
                  go_wp2_with fail
                  go_roundg (x.imps.length - (j + 1))
                  case measure => omega
                  case rel => exact ⟨j + 1, by omega, rfl, by go_num, HKR.out⟩
                · go_wp2_with fail
                  go_roundg (x.imps.length - (j + 1))
                  case measure => omega
                  case rel => exact ⟨j + 1, by omega, rfl, by go_num, HKR.out⟩
              · go_wp2_with fail
                have HB6 := Lib.hid (HB.out.trans (Kp.to_below HKR.out (fun k f => f.elim) HB.out.size))
                refine (works_any _ (HE.out.below HB6.out)).mono ?_
                rintro e w5 ⟨rfl, hb3⟩
                have HB7 := Lib.hid (HB6.out.trans (hb3.mono HB6.out.size))
                clear hb3
                go_wp2_with fail
                refine bodyPost_ret (v := .bool true) (by simp [results, Tryz.results5, go_sem]) rfl ⟨rfl, HB7.out⟩
end Go.Proofs.YthmdaejlopjjoaaGreatDoor
