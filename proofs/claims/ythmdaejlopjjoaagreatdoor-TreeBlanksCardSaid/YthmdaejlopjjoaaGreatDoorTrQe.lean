/-
  tree: copies: parts without lists.
-/
import Derived.Test.YthmdaejlopjjoaaGreatDoorSmB
import Derived.Test.YthmdaejlopjjoaaGreatDoorShelf
import Derived.Test.YthmdaejlopjjoaaGreatDoorFlow
namespace Go.Proofs.YthmdaejlopjjoaaGreatDoor
open Go.RowKit
set_option linter.unusedVariables false
set_option linter.unusedSimpArgs false

theorem Kn.of_below {a b : World} (h : Below a.heap.size a b) : Kn a b := (Kp.of_below h).mono fun i e hi => by omega
set_option maxRecDepth 100000 in
set_option maxHeartbeats 1000000 in
theorem cloneQ_any (s : ByteArray) (w : World) (hs : s.size ≤ 65536) : Calls Tryz.prog 81 #[.string s] w fun e w' => e = .returned (.string s) ∧ Kn w w' := by
  go_enter Tryz.func81, Tryz.ntmps81
  go_wp2_with fail
  refine (Tryz.stringslite_Clone s _ (by omega)).mono ?_
  rintro e w1 ⟨rfl, hb⟩
  go_wp2_with fail
  refine bodyPost_ret (v := .string s) (by simp [results, Tryz.results81, go_sem]) rfl ⟨rfl, Kn.of_below hb⟩
/-- What a copy without places has in a place's stead. -/
theorem place_bare (a : Int) (W : World) : Calls Tryz.prog 49 #[.int .i64 a] W fun e W' => e = .returned (.int .i64 0) ∧ Kn W W' := by
  go_enter Tryz.func49, Tryz.ntmps49
  go_wp2_with fail
  refine bodyPost_ret (v := .int .i64 0) (by simp [results, Tryz.results49, go_sem]) rfl ⟨rfl, Kp.refl _ _⟩
theorem place_copy (a : Int) (W : World) : Calls Tryz.prog 47 #[.int .i64 a] W fun e W' => e = .returned (.int .i64 a) ∧ Kn W W' := by
  go_enter Tryz.func47, Tryz.ntmps47
  go_wp2_with fail
  refine bodyPost_ret (v := .int .i64 a) (by simp [results, Tryz.results47, go_sem]) rfl ⟨rfl, Kp.refl _ _⟩
set_option maxRecDepth 100000 in
set_option maxHeartbeats 1000000 in
theorem spanC_bare (x : Sp) (w : World) : Calls Tryz.prog 130 #[.func (.func 49) #[] #[], .agg #[.int .i64 x.lo, .int .i64 x.hi, .int .i64 x.at_]] w fun e w' => e = .returned (.agg #[.int .i64 x.lo, .int .i64 x.hi, .int .i64 0]) ∧ Kn w w' := by
  go_enter Tryz.func130, Tryz.ntmps130
  have HX := Lib.hid ((Blk.new w 126 #[.int .i64 x.lo, .int .i64 x.hi, .int .i64 x.at_]).alloc (.cells #[.int .i64 0, .int .i64 0, .int .i64 0] 126))
  have HY := Lib.hid (show Blk _ (w.heap.size + 1) _ _ by have := Blk.new (w.alloc (.cells #[.int .i64 x.lo, .int .i64 x.hi, .int .i64 x.at_] 126)) 126 #[.int .i64 0, .int .i64 0, .int .i64 0]; simpa using this)
  have HK := Lib.hid (((Kp.refl (fun _ => False) w).alloc (.cells #[.int .i64 x.lo, .int .i64 x.hi, .int .i64 x.at_] 126)).alloc (.cells #[.int .i64 0, .int .i64 0, .int .i64 0] 126))
  go_wp2_with fail
  refine (place_bare _ _).mono ?_
  rintro e w1 ⟨rfl, hk⟩
  obtain ⟨x0, x1, x2, xf0, xf1, xf2⟩ := (HX.out.kp hk (fun f => f)).three_
  obtain ⟨y0, y1, y2, yf0, yf1, yf2⟩ := (HY.out.kp hk (fun f => f)).three_
  have HF := ((((HY.out.kp hk (fun f => f)).far (p := ⟨w.heap.size, 2, none⟩) (by show w.heap.size + 1 ≠ w.heap.size; omega) (.int .i64 0)).set_ 0 (.int .i64 x.lo)).set_ 1 (.int .i64 x.hi)).set_ 2 (.int .i64 0)
  have f0 := HF.cell 0
  have f1 := HF.cell 1
  have f2 := HF.cell 2
  simp only [List.setIfInBounds_toArray, List.set_cons_zero, List.set_cons_succ, List.getElem?_toArray, List.getElem?_cons_zero, List.getElem?_cons_succ] at f0 f1 f2
  have HK1 := ((((HK.out.trans hk).setCell (p := ⟨w.heap.size, 2, none⟩) (fun h => by have h2 : w.heap.size < w.heap.size := h; omega) (.int .i64 0)).setCell (p := ⟨w.heap.size + 1, 0, none⟩) (fun h => by have h2 : w.heap.size + 1 < w.heap.size := h; omega) (.int .i64 x.lo)).setCell (p := ⟨w.heap.size + 1, 1, none⟩) (fun h => by have h2 : w.heap.size + 1 < w.heap.size := h; omega) (.int .i64 x.hi)).setCell (p := ⟨w.heap.size + 1, 2, none⟩) (fun h => by have h2 : w.heap.size + 1 < w.heap.size := h; omega) (.int .i64 0)
  have HK2 := Lib.hid HK1
  have HF2 := Lib.hid HF
  clear HF HK1
  go_wp2_with fail
  refine bodyPost_ret (v := .agg #[.int .i64 x.lo, .int .i64 x.hi, .int .i64 0]) (by simp [results, Tryz.results130, go_sem, f0, f1, f2]) rfl ⟨rfl, HK2.out⟩
def textC_bare1V (x : Tx) (q : Nat) : Nat → Value → Prop
  | 0, v => v = .pointer (some ⟨q, 0, none⟩)
  | 1, v => v = .string x.s
  | 2, v => v = .string x.s
  | 3, v => v = .func (.func 49) #[] #[]
  | 4, v => v = .pointer (some ⟨q, 1, none⟩)
  | 5, v => v = .int .i64 x.at_
  | 6, v => v = .int .i64 (0)
  | 7, v => v = .pointer (some ⟨q, 0, none⟩)
  | 9, v => v = .pointer (some ⟨q, 1, none⟩)
  | _, _ => True
def textC_bare1P (x : Tx) (q : Nat) (w1 : World) : Nat → (Nat → Value) → World → Prop
  | 8, _, W => Blk W q 99 #[.string x.s, .int .i64 x.at_] ∧ Kp (fun k => k = q) w1 W
  | 10, _, W => Blk W q 99 #[.string x.s, .int .i64 (0)] ∧ Kp (fun k => k = q) w1 W
  | 11, _, W => Blk W q 99 #[.string x.s, .int .i64 x.at_] ∧ Kp (fun k => k = q) w1 W
  | _, _, _ => True
def textC_bare1F (q : Nat) (i : Nat) (W W' : World) : Prop := if i = 8 ∨ i = 10 then Kp (fun k => k = q) W W' else Kn W W'
set_option maxRecDepth 100000 in
set_option maxHeartbeats 4000000 in
theorem textC_bare (x : Tx) (w : World) (hs : x.s.size ≤ 65536) : Calls Tryz.prog 128 #[.func (.func 49) #[] #[], .agg #[.string x.s, .int .i64 x.at_]] w fun e w' => e = .returned (.agg #[.string x.s, .int .i64 (0)]) ∧ Kn w w' := by
  go_enter Tryz.func128, Tryz.ntmps128
  go_wp2_with fail
  have HB := Lib.hid ((Blk.new w 99 #[.string x.s, .int .i64 x.at_]).alloc (.cells #[.string ⟨#[]⟩, .int .i64 0] 99))
  have HR := Lib.hid (show Blk _ (w.heap.size + 1) 99 #[.string ⟨#[]⟩, .int .i64 0] by have := Blk.new (w.alloc (.cells #[.string x.s, .int .i64 x.at_] 99)) 99 #[.string ⟨#[]⟩, .int .i64 0]; simpa using this)
  have HK0 := Lib.hid (show Kn w _ from ((Kp.refl (fun _ => False) w).alloc (.cells #[.string x.s, .int .i64 x.at_] 99)).alloc (.cells #[.string ⟨#[]⟩, .int .i64 0] 99))
  obtain ⟨q, hq⟩ : ∃ q, q = w.heap.size := ⟨_, rfl⟩
  have HQ := Lib.hid hq
  simp only [← hq] at HB HR ⊢
  clear hq
  generalize World.alloc (World.alloc w _) _ = w1 at *
  refine wp_region_flow (by kernel_rfl) 15 1 2 (fun i => match i with | 1 => [11] | 5 => [11] | 8 => [11] | 10 => [8] | _ => []) (fun _ => []) (fun i => match i with | 8 => [11] | 10 => [11, 8] | _ => []) (fun i => ([5, 6, 7, 8, 9, 10, 11, 12, 23, 13, 25, 26] : List Nat).getD i 0) (by kernel_rfl) rfl [5, 6, 7, 8, 9, 10, 11, 12, 23, 13, 25, 26] (by kernel_rfl)
    (textC_bare1F q) (textC_bare1V x q) (textC_bare1P x q w1) ?cong ?st ?t0 ?op ?skip ?done
  case cong =>
    intro i d d' W hi hj h
    have hi : i < 12 := hi
    obtain rfl | rfl | rfl | rfl | rfl | rfl | rfl | rfl | rfl | rfl | rfl | rfl : i = 0 ∨ i = 1 ∨ i = 2 ∨ i = 3 ∨ i = 4 ∨ i = 5 ∨ i = 6 ∨ i = 7 ∨ i = 8 ∨ i = 9 ∨ i = 10 ∨ i = 11 := by omega
    all_goals exact h
  case st =>
    intro i j d W W' hi hj hij hsp hr h hF
    have hi : i < 11 := hi
    have hj : j < 12 := hj
    unfold textC_bare1F at hF
    by_cases hs : i = 8 ∨ i = 10
    · rw [if_pos hs] at hF
      by_cases hjs : j = 8 ∨ j = 10 ∨ j = 11
      · exfalso
        rcases hs with rfl | rfl <;> rcases hjs with rfl | rfl | rfl
        all_goals first
          | exact hij rfl
          | (simp at hsp; done)
          | exact absurd (show reach _ 2 _ _ = true by kernel_rfl) (by rw [hr]; decide)
      · obtain rfl | rfl | rfl | rfl | rfl | rfl | rfl | rfl | rfl : j = 0 ∨ j = 1 ∨ j = 2 ∨ j = 3 ∨ j = 4 ∨ j = 5 ∨ j = 6 ∨ j = 7 ∨ j = 9 := by omega
        all_goals trivial
    · rw [if_neg hs] at hF
      by_cases hjs : j = 8 ∨ j = 10 ∨ j = 11
      · rcases hjs with rfl | rfl | rfl
        all_goals exact ⟨Blk.kp h.1 hF (fun f => f), Kp.trans' h.2 hF (fun _ f _ => f.elim)⟩
      · obtain rfl | rfl | rfl | rfl | rfl | rfl | rfl | rfl | rfl : j = 0 ∨ j = 1 ∨ j = 2 ∨ j = 3 ∨ j = 4 ∨ j = 5 ∨ j = 6 ∨ j = 7 ∨ j = 9 := by omega
        all_goals trivial
  case t0 =>
    intro j d hj
    obtain rfl : j = 0 := by omega
    exact ⟨Blk.drew HB.out, Kp.drew (Kp.refl _ _)⟩
  case op =>
    intro i o ho u W hdep hV _ _ K hK
    simp only [over, List.foldl_cons, List.foldl_nil, List.setIfInBounds_toArray, List.set_cons_zero, List.set_cons_succ, List.set_nil, List.getD_cons_zero, List.getD_cons_succ, Array.getD_eq_getD_getElem?, List.getElem?_toArray] at hK hdep hV ⊢
    match i, ho with
    | 0, ho =>
      simp only [List.getElem?_toArray, List.getElem?_cons_zero, List.getElem?_cons_succ, Option.some.injEq] at ho
      subst ho
      go_wp2
      exact hK _ _ rfl trivial (Kp.refl _ _)
    | 1, ho =>
      simp only [List.getElem?_toArray, List.getElem?_cons_zero, List.getElem?_cons_succ, Option.some.injEq] at ho
      subst ho
      have v0 : u 5 = .pointer (some ⟨q, 0, none⟩) := hV 0 (by kernel_rfl)
      obtain ⟨hb, hk⟩ := hdep 11 (by simp)
      have hc := Blk.cell hb 0
      simp only [List.getElem?_toArray, List.getElem?_cons_zero, List.getElem?_cons_succ] at hc
      simp only [v0] at hK ⊢
      go_wp2
      exact hK _ _ rfl trivial (Kp.refl _ _)
    | 2, ho =>
      simp only [List.getElem?_toArray, List.getElem?_cons_zero, List.getElem?_cons_succ, Option.some.injEq] at ho
      subst ho
      have v1 : u 6 = .string x.s := hV 1 (by kernel_rfl)
      simp only [v1] at hK ⊢
      go_wp2_with fail
      refine (cloneQ_any _ _ hs).mono ?_
      rintro e w2 ⟨rfl, hk2⟩
      exact hK _ _ rfl trivial hk2
    | 3, ho =>
      simp only [List.getElem?_toArray, List.getElem?_cons_zero, List.getElem?_cons_succ, Option.some.injEq] at ho
      subst ho
      go_wp2
      exact hK _ _ rfl trivial (Kp.refl _ _)
    | 4, ho =>
      simp only [List.getElem?_toArray, List.getElem?_cons_zero, List.getElem?_cons_succ, Option.some.injEq] at ho
      subst ho
      go_wp2
      exact hK _ _ rfl trivial (Kp.refl _ _)
    | 5, ho =>
      simp only [List.getElem?_toArray, List.getElem?_cons_zero, List.getElem?_cons_succ, Option.some.injEq] at ho
      subst ho
      have v4 : u 9 = .pointer (some ⟨q, 1, none⟩) := hV 4 (by kernel_rfl)
      obtain ⟨hb, hk⟩ := hdep 11 (by simp)
      have hc := Blk.cell hb 1
      simp only [List.getElem?_toArray, List.getElem?_cons_zero, List.getElem?_cons_succ] at hc
      simp only [v4] at hK ⊢
      go_wp2
      exact hK _ _ rfl trivial (Kp.refl _ _)
    | 6, ho =>
      simp only [List.getElem?_toArray, List.getElem?_cons_zero, List.getElem?_cons_succ, Option.some.injEq] at ho
      subst ho
      have v3 : u 8 = .func (.func 49) #[] #[] := hV 3 (by kernel_rfl)
      have v5 : u 10 = .int .i64 x.at_ := hV 5 (by kernel_rfl)
      simp only [v3, v5] at hK ⊢
      go_wp2_with fail
      refine (place_bare _ _).mono ?_
      rintro e w2 ⟨rfl, hk2⟩
      exact hK _ _ rfl trivial hk2
    | 7, ho =>
      simp only [List.getElem?_toArray, List.getElem?_cons_zero, List.getElem?_cons_succ, Option.some.injEq] at ho
      subst ho
      go_wp2
      exact hK _ _ rfl trivial (Kp.refl _ _)
    | 8, ho =>
      simp only [List.getElem?_toArray, List.getElem?_cons_zero, List.getElem?_cons_succ, Option.some.injEq] at ho
      subst ho
      have v7 : u 12 = .pointer (some ⟨q, 0, none⟩) := hV 7 (by kernel_rfl)
      have v2 : u 7 = .string x.s := hV 2 (by kernel_rfl)
      obtain ⟨hb, hk⟩ := hdep 11 (by simp)
      have hc := Blk.cell hb 0
      have hf := Blk.frozen hb 0
      simp only [List.getElem?_toArray, List.getElem?_cons_zero, List.getElem?_cons_succ] at hc
      simp only [v7, v2] at hK ⊢
      go_wp2
      exact hK undef _ trivial ⟨Blk.set_ hb 0 _, Kp.setCell hk (fun _ => rfl) _⟩ (Kp.setCell (S := fun k => k = q) (Kp.refl _ W) (fun _ => rfl) _)
    | 9, ho =>
      simp only [List.getElem?_toArray, List.getElem?_cons_zero, List.getElem?_cons_succ, Option.some.injEq] at ho
      subst ho
      go_wp2
      exact hK _ _ rfl trivial (Kp.refl _ _)
    | 10, ho =>
      simp only [List.getElem?_toArray, List.getElem?_cons_zero, List.getElem?_cons_succ, Option.some.injEq] at ho
      subst ho
      have v9 : u 13 = .pointer (some ⟨q, 1, none⟩) := hV 9 (by kernel_rfl)
      have v6 : u 11 = .int .i64 (0) := hV 6 (by kernel_rfl)
      obtain ⟨hb, hk⟩ := hdep 8 (by simp)
      have hc := Blk.cell hb 1
      have hf := Blk.frozen hb 1
      simp only [List.getElem?_toArray, List.getElem?_cons_zero, List.getElem?_cons_succ] at hc
      simp only [v9, v6] at hK ⊢
      go_wp2
      exact hK undef _ trivial ⟨Blk.set_ hb 1 _, Kp.setCell hk (fun _ => rfl) _⟩ (Kp.setCell (S := fun k => k = q) (Kp.refl _ W) (fun _ => rfl) _)
    | k + 11, ho => simp at ho
  case skip =>
    intro i o g b ho hg
    rw [no_guard (by kernel_rfl) ho] at hg
    cases hg
  case done =>
    intro u W1 hV hP
    obtain ⟨hb1, hk1⟩ := hP 10 (by decide) (by decide)
    clear hV hP
    have HK1_ := Lib.hid (Kp.trans' HK0.out hk1 (fun i e hi => by have := HQ.out; omega))
    have HR1 := Lib.hid (HR.out.kp hk1 (by omega))
    clear HB hk1
    have HB := Lib.hid hb1
    clear hb1
    simp only [over, List.foldl_cons, List.foldl_nil, List.setIfInBounds_toArray, List.set_cons_zero, List.set_cons_succ, List.set_nil, List.getD_cons_zero, List.getD_cons_succ, Array.getD_eq_getD_getElem?, List.getElem?_toArray]
    have bc := HB.out.cell
    have b0 := bc 0
    have b1 := bc 1
    have rc := HR1.out.cell
    have r0 := rc 0
    have r1 := rc 1
    have rf := HR1.out.frozen
    have z0 := rf 0
    have z1 := rf 1
    simp only [List.getElem?_toArray, List.getElem?_cons_zero, List.getElem?_cons_succ] at b0 r0 b1 r1
    clear bc rc rf
    go_wp2_with fail
    have HF := ((HR1.out.set_ 0 (.string x.s)).set_ 1 (.int .i64 (0)))
    have f0 := HF.cell 0
    have f1 := HF.cell 1
    simp only [List.setIfInBounds_toArray, List.set_cons_zero, List.set_cons_succ, List.getElem?_toArray, List.getElem?_cons_zero, List.getElem?_cons_succ] at f0 f1
    refine bodyPost_ret (v := .agg #[.string x.s, .int .i64 (0)]) (by simp [results, Tryz.results128, go_sem, f0, f1]) rfl ⟨rfl, (Kp.setCell (Kp.setCell HK1_.out (p := ⟨q + 1, 0, none⟩) (fun h => by have h2 : q + 1 < w.heap.size := h; have := HQ.out; omega) _) (p := ⟨q + 1, 1, none⟩) (fun h => by have h2 : q + 1 < w.heap.size := h; have := HQ.out; omega) _)⟩
def importC_bare1V (x : Im) (q : Nat) : Nat → Value → Prop
  | 0, v => v = .pointer (some ⟨q, 0, none⟩)
  | 1, v => v = .string x.path
  | 2, v => v = .string x.path
  | 3, v => v = .func (.func 49) #[] #[]
  | 4, v => v = .pointer (some ⟨q, 2, none⟩)
  | 5, v => v = .int .i64 x.at_
  | 6, v => v = .int .i64 (0)
  | 7, v => v = .pointer (some ⟨q, 0, none⟩)
  | 9, v => v = .pointer (some ⟨q, 2, none⟩)
  | _, _ => True
def importC_bare1P (x : Im) (q : Nat) (w1 : World) : Nat → (Nat → Value) → World → Prop
  | 8, _, W => Blk W q 37 #[.string x.path, .bool x.pub, .int .i64 x.at_] ∧ Kp (fun k => k = q) w1 W
  | 10, _, W => Blk W q 37 #[.string x.path, .bool x.pub, .int .i64 (0)] ∧ Kp (fun k => k = q) w1 W
  | 11, _, W => Blk W q 37 #[.string x.path, .bool x.pub, .int .i64 x.at_] ∧ Kp (fun k => k = q) w1 W
  | _, _, _ => True
def importC_bare1F (q : Nat) (i : Nat) (W W' : World) : Prop := if i = 8 ∨ i = 10 then Kp (fun k => k = q) W W' else Kn W W'
set_option maxRecDepth 100000 in
set_option maxHeartbeats 4000000 in
theorem importC_bare (x : Im) (w : World) (hpath : x.path.size ≤ 65536) : Calls Tryz.prog 83 #[.func (.func 49) #[] #[], .agg #[.string x.path, .bool x.pub, .int .i64 x.at_]] w fun e w' => e = .returned (.agg #[.string x.path, .bool x.pub, .int .i64 (0)]) ∧ Kn w w' := by
  go_enter Tryz.func83, Tryz.ntmps83
  go_wp2_with fail
  have HB := Lib.hid ((Blk.new w 37 #[.string x.path, .bool x.pub, .int .i64 x.at_]).alloc (.cells #[.string ⟨#[]⟩, .bool false, .int .i64 0] 37))
  have HR := Lib.hid (show Blk _ (w.heap.size + 1) 37 #[.string ⟨#[]⟩, .bool false, .int .i64 0] by have := Blk.new (w.alloc (.cells #[.string x.path, .bool x.pub, .int .i64 x.at_] 37)) 37 #[.string ⟨#[]⟩, .bool false, .int .i64 0]; simpa using this)
  have HK0 := Lib.hid (show Kn w _ from ((Kp.refl (fun _ => False) w).alloc (.cells #[.string x.path, .bool x.pub, .int .i64 x.at_] 37)).alloc (.cells #[.string ⟨#[]⟩, .bool false, .int .i64 0] 37))
  obtain ⟨q, hq⟩ : ∃ q, q = w.heap.size := ⟨_, rfl⟩
  have HQ := Lib.hid hq
  simp only [← hq] at HB HR ⊢
  clear hq
  generalize World.alloc (World.alloc w _) _ = w1 at *
  refine wp_region_flow (by kernel_rfl) 15 1 2 (fun i => match i with | 1 => [11] | 5 => [11] | 8 => [11] | 10 => [8] | _ => []) (fun _ => []) (fun i => match i with | 8 => [11] | 10 => [11, 8] | _ => []) (fun i => ([5, 6, 7, 8, 9, 10, 11, 12, 23, 13, 25, 26] : List Nat).getD i 0) (by kernel_rfl) rfl [5, 6, 7, 8, 9, 10, 11, 12, 23, 13, 25, 26] (by kernel_rfl)
    (importC_bare1F q) (importC_bare1V x q) (importC_bare1P x q w1) ?cong ?st ?t0 ?op ?skip ?done
  case cong =>
    intro i d d' W hi hj h
    have hi : i < 12 := hi
    obtain rfl | rfl | rfl | rfl | rfl | rfl | rfl | rfl | rfl | rfl | rfl | rfl : i = 0 ∨ i = 1 ∨ i = 2 ∨ i = 3 ∨ i = 4 ∨ i = 5 ∨ i = 6 ∨ i = 7 ∨ i = 8 ∨ i = 9 ∨ i = 10 ∨ i = 11 := by omega
    all_goals exact h
  case st =>
    intro i j d W W' hi hj hij hsp hr h hF
    have hi : i < 11 := hi
    have hj : j < 12 := hj
    unfold importC_bare1F at hF
    by_cases hs : i = 8 ∨ i = 10
    · rw [if_pos hs] at hF
      by_cases hjs : j = 8 ∨ j = 10 ∨ j = 11
      · exfalso
        rcases hs with rfl | rfl <;> rcases hjs with rfl | rfl | rfl
        all_goals first
          | exact hij rfl
          | (simp at hsp; done)
          | exact absurd (show reach _ 2 _ _ = true by kernel_rfl) (by rw [hr]; decide)
      · obtain rfl | rfl | rfl | rfl | rfl | rfl | rfl | rfl | rfl : j = 0 ∨ j = 1 ∨ j = 2 ∨ j = 3 ∨ j = 4 ∨ j = 5 ∨ j = 6 ∨ j = 7 ∨ j = 9 := by omega
        all_goals trivial
    · rw [if_neg hs] at hF
      by_cases hjs : j = 8 ∨ j = 10 ∨ j = 11
      · rcases hjs with rfl | rfl | rfl
        all_goals exact ⟨Blk.kp h.1 hF (fun f => f), Kp.trans' h.2 hF (fun _ f _ => f.elim)⟩
      · obtain rfl | rfl | rfl | rfl | rfl | rfl | rfl | rfl | rfl : j = 0 ∨ j = 1 ∨ j = 2 ∨ j = 3 ∨ j = 4 ∨ j = 5 ∨ j = 6 ∨ j = 7 ∨ j = 9 := by omega
        all_goals trivial
  case t0 =>
    intro j d hj
    obtain rfl : j = 0 := by omega
    exact ⟨Blk.drew HB.out, Kp.drew (Kp.refl _ _)⟩
  case op =>
    intro i o ho u W hdep hV _ _ K hK
    simp only [over, List.foldl_cons, List.foldl_nil, List.setIfInBounds_toArray, List.set_cons_zero, List.set_cons_succ, List.set_nil, List.getD_cons_zero, List.getD_cons_succ, Array.getD_eq_getD_getElem?, List.getElem?_toArray] at hK hdep hV ⊢
    match i, ho with
    | 0, ho =>
      simp only [List.getElem?_toArray, List.getElem?_cons_zero, List.getElem?_cons_succ, Option.some.injEq] at ho
      subst ho
      go_wp2
      exact hK _ _ rfl trivial (Kp.refl _ _)
    | 1, ho =>
      simp only [List.getElem?_toArray, List.getElem?_cons_zero, List.getElem?_cons_succ, Option.some.injEq] at ho
      subst ho
      have v0 : u 5 = .pointer (some ⟨q, 0, none⟩) := hV 0 (by kernel_rfl)
      obtain ⟨hb, hk⟩ := hdep 11 (by simp)
      have hc := Blk.cell hb 0
      simp only [List.getElem?_toArray, List.getElem?_cons_zero, List.getElem?_cons_succ] at hc
      simp only [v0] at hK ⊢
      go_wp2
      exact hK _ _ rfl trivial (Kp.refl _ _)
    | 2, ho =>
      simp only [List.getElem?_toArray, List.getElem?_cons_zero, List.getElem?_cons_succ, Option.some.injEq] at ho
      subst ho
      have v1 : u 6 = .string x.path := hV 1 (by kernel_rfl)
      simp only [v1] at hK ⊢
      go_wp2_with fail
      refine (cloneQ_any _ _ hpath).mono ?_
      rintro e w2 ⟨rfl, hk2⟩
      exact hK _ _ rfl trivial hk2
    | 3, ho =>
      simp only [List.getElem?_toArray, List.getElem?_cons_zero, List.getElem?_cons_succ, Option.some.injEq] at ho
      subst ho
      go_wp2
      exact hK _ _ rfl trivial (Kp.refl _ _)
    | 4, ho =>
      simp only [List.getElem?_toArray, List.getElem?_cons_zero, List.getElem?_cons_succ, Option.some.injEq] at ho
      subst ho
      go_wp2
      exact hK _ _ rfl trivial (Kp.refl _ _)
    | 5, ho =>
      simp only [List.getElem?_toArray, List.getElem?_cons_zero, List.getElem?_cons_succ, Option.some.injEq] at ho
      subst ho
      have v4 : u 9 = .pointer (some ⟨q, 2, none⟩) := hV 4 (by kernel_rfl)
      obtain ⟨hb, hk⟩ := hdep 11 (by simp)
      have hc := Blk.cell hb 2
      simp only [List.getElem?_toArray, List.getElem?_cons_zero, List.getElem?_cons_succ] at hc
      simp only [v4] at hK ⊢
      go_wp2
      exact hK _ _ rfl trivial (Kp.refl _ _)
    | 6, ho =>
      simp only [List.getElem?_toArray, List.getElem?_cons_zero, List.getElem?_cons_succ, Option.some.injEq] at ho
      subst ho
      have v3 : u 8 = .func (.func 49) #[] #[] := hV 3 (by kernel_rfl)
      have v5 : u 10 = .int .i64 x.at_ := hV 5 (by kernel_rfl)
      simp only [v3, v5] at hK ⊢
      go_wp2_with fail
      refine (place_bare _ _).mono ?_
      rintro e w2 ⟨rfl, hk2⟩
      exact hK _ _ rfl trivial hk2
    | 7, ho =>
      simp only [List.getElem?_toArray, List.getElem?_cons_zero, List.getElem?_cons_succ, Option.some.injEq] at ho
      subst ho
      go_wp2
      exact hK _ _ rfl trivial (Kp.refl _ _)
    | 8, ho =>
      simp only [List.getElem?_toArray, List.getElem?_cons_zero, List.getElem?_cons_succ, Option.some.injEq] at ho
      subst ho
      have v7 : u 12 = .pointer (some ⟨q, 0, none⟩) := hV 7 (by kernel_rfl)
      have v2 : u 7 = .string x.path := hV 2 (by kernel_rfl)
      obtain ⟨hb, hk⟩ := hdep 11 (by simp)
      have hc := Blk.cell hb 0
      have hf := Blk.frozen hb 0
      simp only [List.getElem?_toArray, List.getElem?_cons_zero, List.getElem?_cons_succ] at hc
      simp only [v7, v2] at hK ⊢
      go_wp2
      exact hK undef _ trivial ⟨Blk.set_ hb 0 _, Kp.setCell hk (fun _ => rfl) _⟩ (Kp.setCell (S := fun k => k = q) (Kp.refl _ W) (fun _ => rfl) _)
    | 9, ho =>
      simp only [List.getElem?_toArray, List.getElem?_cons_zero, List.getElem?_cons_succ, Option.some.injEq] at ho
      subst ho
      go_wp2
      exact hK _ _ rfl trivial (Kp.refl _ _)
    | 10, ho =>
      simp only [List.getElem?_toArray, List.getElem?_cons_zero, List.getElem?_cons_succ, Option.some.injEq] at ho
      subst ho
      have v9 : u 13 = .pointer (some ⟨q, 2, none⟩) := hV 9 (by kernel_rfl)
      have v6 : u 11 = .int .i64 (0) := hV 6 (by kernel_rfl)
      obtain ⟨hb, hk⟩ := hdep 8 (by simp)
      have hc := Blk.cell hb 2
      have hf := Blk.frozen hb 2
      simp only [List.getElem?_toArray, List.getElem?_cons_zero, List.getElem?_cons_succ] at hc
      simp only [v9, v6] at hK ⊢
      go_wp2
      exact hK undef _ trivial ⟨Blk.set_ hb 2 _, Kp.setCell hk (fun _ => rfl) _⟩ (Kp.setCell (S := fun k => k = q) (Kp.refl _ W) (fun _ => rfl) _)
    | k + 11, ho => simp at ho
  case skip =>
    intro i o g b ho hg
    rw [no_guard (by kernel_rfl) ho] at hg
    cases hg
  case done =>
    intro u W1 hV hP
    obtain ⟨hb1, hk1⟩ := hP 10 (by decide) (by decide)
    clear hV hP
    have HK1_ := Lib.hid (Kp.trans' HK0.out hk1 (fun i e hi => by have := HQ.out; omega))
    have HR1 := Lib.hid (HR.out.kp hk1 (by omega))
    clear HB hk1
    have HB := Lib.hid hb1
    clear hb1
    simp only [over, List.foldl_cons, List.foldl_nil, List.setIfInBounds_toArray, List.set_cons_zero, List.set_cons_succ, List.set_nil, List.getD_cons_zero, List.getD_cons_succ, Array.getD_eq_getD_getElem?, List.getElem?_toArray]
    have bc := HB.out.cell
    have b0 := bc 0
    have b1 := bc 1
    have b2 := bc 2
    have rc := HR1.out.cell
    have r0 := rc 0
    have r1 := rc 1
    have r2 := rc 2
    have rf := HR1.out.frozen
    have z0 := rf 0
    have z1 := rf 1
    have z2 := rf 2
    simp only [List.getElem?_toArray, List.getElem?_cons_zero, List.getElem?_cons_succ] at b0 r0 b1 r1 b2 r2
    clear bc rc rf
    go_wp2_with fail
    have HF := (((HR1.out.set_ 0 (.string x.path)).set_ 1 (.bool x.pub)).set_ 2 (.int .i64 (0)))
    have f0 := HF.cell 0
    have f1 := HF.cell 1
    have f2 := HF.cell 2
    simp only [List.setIfInBounds_toArray, List.set_cons_zero, List.set_cons_succ, List.getElem?_toArray, List.getElem?_cons_zero, List.getElem?_cons_succ] at f0 f1 f2
    refine bodyPost_ret (v := .agg #[.string x.path, .bool x.pub, .int .i64 (0)]) (by simp [results, Tryz.results83, go_sem, f0, f1, f2]) rfl ⟨rfl, (Kp.setCell (Kp.setCell (Kp.setCell HK1_.out (p := ⟨q + 1, 0, none⟩) (fun h => by have h2 : q + 1 < w.heap.size := h; have := HQ.out; omega) _) (p := ⟨q + 1, 1, none⟩) (fun h => by have h2 : q + 1 < w.heap.size := h; have := HQ.out; omega) _) (p := ⟨q + 1, 2, none⟩) (fun h => by have h2 : q + 1 < w.heap.size := h; have := HQ.out; omega) _)⟩
def valueC_bare1V (x : Vl) (q : Nat) : Nat → Value → Prop
  | 0, v => v = .pointer (some ⟨q, 0, none⟩)
  | 1, v => v = .string x.name
  | 2, v => v = .string x.name
  | 3, v => v = .func (.func 49) #[] #[]
  | 4, v => v = .pointer (some ⟨q, 2, none⟩)
  | 5, v => v = .int .i64 x.at_
  | 6, v => v = .int .i64 (0)
  | 7, v => v = .pointer (some ⟨q, 0, none⟩)
  | 9, v => v = .pointer (some ⟨q, 2, none⟩)
  | _, _ => True
def valueC_bare1P (x : Vl) (q : Nat) (w1 : World) : Nat → (Nat → Value) → World → Prop
  | 8, _, W => Blk W q 55 #[.string x.name, .int .i64 x.num, .int .i64 x.at_] ∧ Kp (fun k => k = q) w1 W
  | 10, _, W => Blk W q 55 #[.string x.name, .int .i64 x.num, .int .i64 (0)] ∧ Kp (fun k => k = q) w1 W
  | 11, _, W => Blk W q 55 #[.string x.name, .int .i64 x.num, .int .i64 x.at_] ∧ Kp (fun k => k = q) w1 W
  | _, _, _ => True
def valueC_bare1F (q : Nat) (i : Nat) (W W' : World) : Prop := if i = 8 ∨ i = 10 then Kp (fun k => k = q) W W' else Kn W W'
set_option maxRecDepth 100000 in
set_option maxHeartbeats 4000000 in
theorem valueC_bare (x : Vl) (w : World) (hname : x.name.size ≤ 65536) : Calls Tryz.prog 132 #[.func (.func 49) #[] #[], .agg #[.string x.name, .int .i64 x.num, .int .i64 x.at_]] w fun e w' => e = .returned (.agg #[.string x.name, .int .i64 x.num, .int .i64 (0)]) ∧ Kn w w' := by
  go_enter Tryz.func132, Tryz.ntmps132
  go_wp2_with fail
  have HB := Lib.hid ((Blk.new w 55 #[.string x.name, .int .i64 x.num, .int .i64 x.at_]).alloc (.cells #[.string ⟨#[]⟩, .int .i64 0, .int .i64 0] 55))
  have HR := Lib.hid (show Blk _ (w.heap.size + 1) 55 #[.string ⟨#[]⟩, .int .i64 0, .int .i64 0] by have := Blk.new (w.alloc (.cells #[.string x.name, .int .i64 x.num, .int .i64 x.at_] 55)) 55 #[.string ⟨#[]⟩, .int .i64 0, .int .i64 0]; simpa using this)
  have HK0 := Lib.hid (show Kn w _ from ((Kp.refl (fun _ => False) w).alloc (.cells #[.string x.name, .int .i64 x.num, .int .i64 x.at_] 55)).alloc (.cells #[.string ⟨#[]⟩, .int .i64 0, .int .i64 0] 55))
  obtain ⟨q, hq⟩ : ∃ q, q = w.heap.size := ⟨_, rfl⟩
  have HQ := Lib.hid hq
  simp only [← hq] at HB HR ⊢
  clear hq
  generalize World.alloc (World.alloc w _) _ = w1 at *
  refine wp_region_flow (by kernel_rfl) 15 1 2 (fun i => match i with | 1 => [11] | 5 => [11] | 8 => [11] | 10 => [8] | _ => []) (fun _ => []) (fun i => match i with | 8 => [11] | 10 => [11, 8] | _ => []) (fun i => ([5, 6, 7, 8, 9, 10, 11, 12, 23, 13, 25, 26] : List Nat).getD i 0) (by kernel_rfl) rfl [5, 6, 7, 8, 9, 10, 11, 12, 23, 13, 25, 26] (by kernel_rfl)
    (valueC_bare1F q) (valueC_bare1V x q) (valueC_bare1P x q w1) ?cong ?st ?t0 ?op ?skip ?done
  case cong =>
    intro i d d' W hi hj h
    have hi : i < 12 := hi
    obtain rfl | rfl | rfl | rfl | rfl | rfl | rfl | rfl | rfl | rfl | rfl | rfl : i = 0 ∨ i = 1 ∨ i = 2 ∨ i = 3 ∨ i = 4 ∨ i = 5 ∨ i = 6 ∨ i = 7 ∨ i = 8 ∨ i = 9 ∨ i = 10 ∨ i = 11 := by omega
    all_goals exact h
  case st =>
    intro i j d W W' hi hj hij hsp hr h hF
    have hi : i < 11 := hi
    have hj : j < 12 := hj
    unfold valueC_bare1F at hF
    by_cases hs : i = 8 ∨ i = 10
    · rw [if_pos hs] at hF
      by_cases hjs : j = 8 ∨ j = 10 ∨ j = 11
      · exfalso
        rcases hs with rfl | rfl <;> rcases hjs with rfl | rfl | rfl
        all_goals first
          | exact hij rfl
          | (simp at hsp; done)
          | exact absurd (show reach _ 2 _ _ = true by kernel_rfl) (by rw [hr]; decide)
      · obtain rfl | rfl | rfl | rfl | rfl | rfl | rfl | rfl | rfl : j = 0 ∨ j = 1 ∨ j = 2 ∨ j = 3 ∨ j = 4 ∨ j = 5 ∨ j = 6 ∨ j = 7 ∨ j = 9 := by omega
        all_goals trivial
    · rw [if_neg hs] at hF
      by_cases hjs : j = 8 ∨ j = 10 ∨ j = 11
      · rcases hjs with rfl | rfl | rfl
        all_goals exact ⟨Blk.kp h.1 hF (fun f => f), Kp.trans' h.2 hF (fun _ f _ => f.elim)⟩
      · obtain rfl | rfl | rfl | rfl | rfl | rfl | rfl | rfl | rfl : j = 0 ∨ j = 1 ∨ j = 2 ∨ j = 3 ∨ j = 4 ∨ j = 5 ∨ j = 6 ∨ j = 7 ∨ j = 9 := by omega
        all_goals trivial
  case t0 =>
    intro j d hj
    obtain rfl : j = 0 := by omega
    exact ⟨Blk.drew HB.out, Kp.drew (Kp.refl _ _)⟩
  case op =>
    intro i o ho u W hdep hV _ _ K hK
    simp only [over, List.foldl_cons, List.foldl_nil, List.setIfInBounds_toArray, List.set_cons_zero, List.set_cons_succ, List.set_nil, List.getD_cons_zero, List.getD_cons_succ, Array.getD_eq_getD_getElem?, List.getElem?_toArray] at hK hdep hV ⊢
    match i, ho with
    | 0, ho =>
      simp only [List.getElem?_toArray, List.getElem?_cons_zero, List.getElem?_cons_succ, Option.some.injEq] at ho
      subst ho
      go_wp2
      exact hK _ _ rfl trivial (Kp.refl _ _)
    | 1, ho =>
      simp only [List.getElem?_toArray, List.getElem?_cons_zero, List.getElem?_cons_succ, Option.some.injEq] at ho
      subst ho
      have v0 : u 5 = .pointer (some ⟨q, 0, none⟩) := hV 0 (by kernel_rfl)
      obtain ⟨hb, hk⟩ := hdep 11 (by simp)
      have hc := Blk.cell hb 0
      simp only [List.getElem?_toArray, List.getElem?_cons_zero, List.getElem?_cons_succ] at hc
      simp only [v0] at hK ⊢
      go_wp2
      exact hK _ _ rfl trivial (Kp.refl _ _)
    | 2, ho =>
      simp only [List.getElem?_toArray, List.getElem?_cons_zero, List.getElem?_cons_succ, Option.some.injEq] at ho
      subst ho
      have v1 : u 6 = .string x.name := hV 1 (by kernel_rfl)
      simp only [v1] at hK ⊢
      go_wp2_with fail
      refine (cloneQ_any _ _ hname).mono ?_
      rintro e w2 ⟨rfl, hk2⟩
      exact hK _ _ rfl trivial hk2
    | 3, ho =>
      simp only [List.getElem?_toArray, List.getElem?_cons_zero, List.getElem?_cons_succ, Option.some.injEq] at ho
      subst ho
      go_wp2
      exact hK _ _ rfl trivial (Kp.refl _ _)
    | 4, ho =>
      simp only [List.getElem?_toArray, List.getElem?_cons_zero, List.getElem?_cons_succ, Option.some.injEq] at ho
      subst ho
      go_wp2
      exact hK _ _ rfl trivial (Kp.refl _ _)
    | 5, ho =>
      simp only [List.getElem?_toArray, List.getElem?_cons_zero, List.getElem?_cons_succ, Option.some.injEq] at ho
      subst ho
      have v4 : u 9 = .pointer (some ⟨q, 2, none⟩) := hV 4 (by kernel_rfl)
      obtain ⟨hb, hk⟩ := hdep 11 (by simp)
      have hc := Blk.cell hb 2
      simp only [List.getElem?_toArray, List.getElem?_cons_zero, List.getElem?_cons_succ] at hc
      simp only [v4] at hK ⊢
      go_wp2
      exact hK _ _ rfl trivial (Kp.refl _ _)
    | 6, ho =>
      simp only [List.getElem?_toArray, List.getElem?_cons_zero, List.getElem?_cons_succ, Option.some.injEq] at ho
      subst ho
      have v3 : u 8 = .func (.func 49) #[] #[] := hV 3 (by kernel_rfl)
      have v5 : u 10 = .int .i64 x.at_ := hV 5 (by kernel_rfl)
      simp only [v3, v5] at hK ⊢
      go_wp2_with fail
      refine (place_bare _ _).mono ?_
      rintro e w2 ⟨rfl, hk2⟩
      exact hK _ _ rfl trivial hk2
    | 7, ho =>
      simp only [List.getElem?_toArray, List.getElem?_cons_zero, List.getElem?_cons_succ, Option.some.injEq] at ho
      subst ho
      go_wp2
      exact hK _ _ rfl trivial (Kp.refl _ _)
    | 8, ho =>
      simp only [List.getElem?_toArray, List.getElem?_cons_zero, List.getElem?_cons_succ, Option.some.injEq] at ho
      subst ho
      have v7 : u 12 = .pointer (some ⟨q, 0, none⟩) := hV 7 (by kernel_rfl)
      have v2 : u 7 = .string x.name := hV 2 (by kernel_rfl)
      obtain ⟨hb, hk⟩ := hdep 11 (by simp)
      have hc := Blk.cell hb 0
      have hf := Blk.frozen hb 0
      simp only [List.getElem?_toArray, List.getElem?_cons_zero, List.getElem?_cons_succ] at hc
      simp only [v7, v2] at hK ⊢
      go_wp2
      exact hK undef _ trivial ⟨Blk.set_ hb 0 _, Kp.setCell hk (fun _ => rfl) _⟩ (Kp.setCell (S := fun k => k = q) (Kp.refl _ W) (fun _ => rfl) _)
    | 9, ho =>
      simp only [List.getElem?_toArray, List.getElem?_cons_zero, List.getElem?_cons_succ, Option.some.injEq] at ho
      subst ho
      go_wp2
      exact hK _ _ rfl trivial (Kp.refl _ _)
    | 10, ho =>
      simp only [List.getElem?_toArray, List.getElem?_cons_zero, List.getElem?_cons_succ, Option.some.injEq] at ho
      subst ho
      have v9 : u 13 = .pointer (some ⟨q, 2, none⟩) := hV 9 (by kernel_rfl)
      have v6 : u 11 = .int .i64 (0) := hV 6 (by kernel_rfl)
      obtain ⟨hb, hk⟩ := hdep 8 (by simp)
      have hc := Blk.cell hb 2
      have hf := Blk.frozen hb 2
      simp only [List.getElem?_toArray, List.getElem?_cons_zero, List.getElem?_cons_succ] at hc
      simp only [v9, v6] at hK ⊢
      go_wp2
      exact hK undef _ trivial ⟨Blk.set_ hb 2 _, Kp.setCell hk (fun _ => rfl) _⟩ (Kp.setCell (S := fun k => k = q) (Kp.refl _ W) (fun _ => rfl) _)
    | k + 11, ho => simp at ho
  case skip =>
    intro i o g b ho hg
    rw [no_guard (by kernel_rfl) ho] at hg
    cases hg
  case done =>
    intro u W1 hV hP
    obtain ⟨hb1, hk1⟩ := hP 10 (by decide) (by decide)
    clear hV hP
    have HK1_ := Lib.hid (Kp.trans' HK0.out hk1 (fun i e hi => by have := HQ.out; omega))
    have HR1 := Lib.hid (HR.out.kp hk1 (by omega))
    clear HB hk1
    have HB := Lib.hid hb1
    clear hb1
    simp only [over, List.foldl_cons, List.foldl_nil, List.setIfInBounds_toArray, List.set_cons_zero, List.set_cons_succ, List.set_nil, List.getD_cons_zero, List.getD_cons_succ, Array.getD_eq_getD_getElem?, List.getElem?_toArray]
    have bc := HB.out.cell
    have b0 := bc 0
    have b1 := bc 1
    have b2 := bc 2
    have rc := HR1.out.cell
    have r0 := rc 0
    have r1 := rc 1
    have r2 := rc 2
    have rf := HR1.out.frozen
    have z0 := rf 0
    have z1 := rf 1
    have z2 := rf 2
    simp only [List.getElem?_toArray, List.getElem?_cons_zero, List.getElem?_cons_succ] at b0 r0 b1 r1 b2 r2
    clear bc rc rf
    go_wp2_with fail
    have HF := (((HR1.out.set_ 0 (.string x.name)).set_ 1 (.int .i64 x.num)).set_ 2 (.int .i64 (0)))
    have f0 := HF.cell 0
    have f1 := HF.cell 1
    have f2 := HF.cell 2
    simp only [List.setIfInBounds_toArray, List.set_cons_zero, List.set_cons_succ, List.getElem?_toArray, List.getElem?_cons_zero, List.getElem?_cons_succ] at f0 f1 f2
    refine bodyPost_ret (v := .agg #[.string x.name, .int .i64 x.num, .int .i64 (0)]) (by simp [results, Tryz.results132, go_sem, f0, f1, f2]) rfl ⟨rfl, (Kp.setCell (Kp.setCell (Kp.setCell HK1_.out (p := ⟨q + 1, 0, none⟩) (fun h => by have h2 : q + 1 < w.heap.size := h; have := HQ.out; omega) _) (p := ⟨q + 1, 1, none⟩) (fun h => by have h2 : q + 1 < w.heap.size := h; have := HQ.out; omega) _) (p := ⟨q + 1, 2, none⟩) (fun h => by have h2 : q + 1 < w.heap.size := h; have := HQ.out; omega) _)⟩
def fieldC_bare1V (x : Fd) (q : Nat) : Nat → Value → Prop
  | 0, v => v = .pointer (some ⟨q, 0, none⟩)
  | 1, v => v = .string x.name
  | 2, v => v = .string x.name
  | 3, v => v = .pointer (some ⟨q, 1, none⟩)
  | 4, v => v = .string x.typ
  | 5, v => v = .string x.typ
  | 6, v => v = .pointer (some ⟨q, 0, none⟩)
  | 8, v => v = .pointer (some ⟨q, 1, none⟩)
  | _, _ => True
def fieldC_bare1P (x : Fd) (q : Nat) (w1 : World) : Nat → (Nat → Value) → World → Prop
  | 7, _, W => Blk W q 97 #[.string x.name, .string x.typ, .string x.key, .string x.json, .int .i64 x.card, .int .i64 x.num, .int .i64 x.oneof, .int .i64 x.at_, .int .i64 x.tat, .int .i64 x.nat_] ∧ Kp (fun k => k = q) w1 W
  | 9, _, W => Blk W q 97 #[.string x.name, .string x.typ, .string x.key, .string x.json, .int .i64 x.card, .int .i64 x.num, .int .i64 x.oneof, .int .i64 x.at_, .int .i64 x.tat, .int .i64 x.nat_] ∧ Kp (fun k => k = q) w1 W
  | 10, _, W => Blk W q 97 #[.string x.name, .string x.typ, .string x.key, .string x.json, .int .i64 x.card, .int .i64 x.num, .int .i64 x.oneof, .int .i64 x.at_, .int .i64 x.tat, .int .i64 x.nat_] ∧ Kp (fun k => k = q) w1 W
  | _, _, _ => True
def fieldC_bare1F (q : Nat) (i : Nat) (W W' : World) : Prop := if i = 7 ∨ i = 9 then Kp (fun k => k = q) W W' else Kn W W'
def fieldC_bare2V (x : Fd) (q : Nat) : Nat → Value → Prop
  | 0, v => v = .pointer (some ⟨q, 2, none⟩)
  | 1, v => v = .string x.key
  | 2, v => v = .string x.key
  | 3, v => v = .pointer (some ⟨q, 3, none⟩)
  | 4, v => v = .string x.json
  | 5, v => v = .string x.json
  | 6, v => v = .pointer (some ⟨q, 2, none⟩)
  | 8, v => v = .pointer (some ⟨q, 3, none⟩)
  | _, _ => True
def fieldC_bare2P (x : Fd) (q : Nat) (w1 : World) : Nat → (Nat → Value) → World → Prop
  | 7, _, W => Blk W q 97 #[.string x.name, .string x.typ, .string x.key, .string x.json, .int .i64 x.card, .int .i64 x.num, .int .i64 x.oneof, .int .i64 x.at_, .int .i64 x.tat, .int .i64 x.nat_] ∧ Kp (fun k => k = q) w1 W
  | 9, _, W => Blk W q 97 #[.string x.name, .string x.typ, .string x.key, .string x.json, .int .i64 x.card, .int .i64 x.num, .int .i64 x.oneof, .int .i64 x.at_, .int .i64 x.tat, .int .i64 x.nat_] ∧ Kp (fun k => k = q) w1 W
  | 10, _, W => Blk W q 97 #[.string x.name, .string x.typ, .string x.key, .string x.json, .int .i64 x.card, .int .i64 x.num, .int .i64 x.oneof, .int .i64 x.at_, .int .i64 x.tat, .int .i64 x.nat_] ∧ Kp (fun k => k = q) w1 W
  | _, _, _ => True
def fieldC_bare2F (q : Nat) (i : Nat) (W W' : World) : Prop := if i = 7 ∨ i = 9 then Kp (fun k => k = q) W W' else Kn W W'
def fieldC_bare3V (x : Fd) (q : Nat) : Nat → Value → Prop
  | 0, v => v = .func (.func 49) #[] #[]
  | 1, v => v = .pointer (some ⟨q, 7, none⟩)
  | 2, v => v = .int .i64 x.at_
  | 3, v => v = .int .i64 (0)
  | 4, v => v = .func (.func 49) #[] #[]
  | 5, v => v = .pointer (some ⟨q, 8, none⟩)
  | 6, v => v = .int .i64 x.tat
  | 7, v => v = .int .i64 (0)
  | 8, v => v = .func (.func 49) #[] #[]
  | 9, v => v = .pointer (some ⟨q, 9, none⟩)
  | 10, v => v = .int .i64 x.nat_
  | 11, v => v = .int .i64 (0)
  | 12, v => v = .pointer (some ⟨q, 7, none⟩)
  | 14, v => v = .pointer (some ⟨q, 8, none⟩)
  | 16, v => v = .pointer (some ⟨q, 9, none⟩)
  | _, _ => True
def fieldC_bare3P (x : Fd) (q : Nat) (w1 : World) : Nat → (Nat → Value) → World → Prop
  | 13, _, W => Blk W q 97 #[.string x.name, .string x.typ, .string x.key, .string x.json, .int .i64 x.card, .int .i64 x.num, .int .i64 x.oneof, .int .i64 (0), .int .i64 x.tat, .int .i64 x.nat_] ∧ Kp (fun k => k = q) w1 W
  | 15, _, W => Blk W q 97 #[.string x.name, .string x.typ, .string x.key, .string x.json, .int .i64 x.card, .int .i64 x.num, .int .i64 x.oneof, .int .i64 (0), .int .i64 (0), .int .i64 x.nat_] ∧ Kp (fun k => k = q) w1 W
  | 17, _, W => Blk W q 97 #[.string x.name, .string x.typ, .string x.key, .string x.json, .int .i64 x.card, .int .i64 x.num, .int .i64 x.oneof, .int .i64 (0), .int .i64 (0), .int .i64 (0)] ∧ Kp (fun k => k = q) w1 W
  | 18, _, W => Blk W q 97 #[.string x.name, .string x.typ, .string x.key, .string x.json, .int .i64 x.card, .int .i64 x.num, .int .i64 x.oneof, .int .i64 x.at_, .int .i64 x.tat, .int .i64 x.nat_] ∧ Kp (fun k => k = q) w1 W
  | _, _, _ => True
def fieldC_bare3F (q : Nat) (i : Nat) (W W' : World) : Prop := if i = 13 ∨ i = 15 ∨ i = 17 then Kp (fun k => k = q) W W' else Kn W W'
set_option maxRecDepth 100000 in
set_option maxHeartbeats 4000000 in
theorem fieldC_bare (x : Fd) (w : World) (hname : x.name.size ≤ 65536) (htyp : x.typ.size ≤ 65536) (hkey : x.key.size ≤ 65536) (hjson : x.json.size ≤ 65536) : Calls Tryz.prog 126 #[.func (.func 49) #[] #[], .agg #[.string x.name, .string x.typ, .string x.key, .string x.json, .int .i64 x.card, .int .i64 x.num, .int .i64 x.oneof, .int .i64 x.at_, .int .i64 x.tat, .int .i64 x.nat_]] w fun e w' => e = .returned (.agg #[.string x.name, .string x.typ, .string x.key, .string x.json, .int .i64 x.card, .int .i64 x.num, .int .i64 x.oneof, .int .i64 (0), .int .i64 (0), .int .i64 (0)]) ∧ Kn w w' := by
  go_enter Tryz.func126, Tryz.ntmps126
  go_wp2_with fail
  have HB := Lib.hid ((Blk.new w 97 #[.string x.name, .string x.typ, .string x.key, .string x.json, .int .i64 x.card, .int .i64 x.num, .int .i64 x.oneof, .int .i64 x.at_, .int .i64 x.tat, .int .i64 x.nat_]).alloc (.cells #[.string ⟨#[]⟩, .string ⟨#[]⟩, .string ⟨#[]⟩, .string ⟨#[]⟩, .int .i64 0, .int .i64 0, .int .i64 0, .int .i64 0, .int .i64 0, .int .i64 0] 97))
  have HR := Lib.hid (show Blk _ (w.heap.size + 1) 97 #[.string ⟨#[]⟩, .string ⟨#[]⟩, .string ⟨#[]⟩, .string ⟨#[]⟩, .int .i64 0, .int .i64 0, .int .i64 0, .int .i64 0, .int .i64 0, .int .i64 0] by have := Blk.new (w.alloc (.cells #[.string x.name, .string x.typ, .string x.key, .string x.json, .int .i64 x.card, .int .i64 x.num, .int .i64 x.oneof, .int .i64 x.at_, .int .i64 x.tat, .int .i64 x.nat_] 97)) 97 #[.string ⟨#[]⟩, .string ⟨#[]⟩, .string ⟨#[]⟩, .string ⟨#[]⟩, .int .i64 0, .int .i64 0, .int .i64 0, .int .i64 0, .int .i64 0, .int .i64 0]; simpa using this)
  have HK0 := Lib.hid (show Kn w _ from ((Kp.refl (fun _ => False) w).alloc (.cells #[.string x.name, .string x.typ, .string x.key, .string x.json, .int .i64 x.card, .int .i64 x.num, .int .i64 x.oneof, .int .i64 x.at_, .int .i64 x.tat, .int .i64 x.nat_] 97)).alloc (.cells #[.string ⟨#[]⟩, .string ⟨#[]⟩, .string ⟨#[]⟩, .string ⟨#[]⟩, .int .i64 0, .int .i64 0, .int .i64 0, .int .i64 0, .int .i64 0, .int .i64 0] 97))
  obtain ⟨q, hq⟩ : ∃ q, q = w.heap.size := ⟨_, rfl⟩
  have HQ := Lib.hid hq
  simp only [← hq] at HB HR ⊢
  clear hq
  generalize World.alloc (World.alloc w _) _ = w1 at *
  refine wp_region_flow (by kernel_rfl) 37 1 2 (fun i => match i with | 1 => [10] | 4 => [10] | 7 => [10] | 9 => [7] | _ => []) (fun _ => []) (fun i => match i with | 7 => [10] | 9 => [10, 7] | _ => []) (fun i => ([5, 6, 7, 8, 9, 10, 11, 44, 12, 46, 47] : List Nat).getD i 0) (by kernel_rfl) rfl [5, 6, 7, 8, 9, 10, 11, 44, 12, 46, 47] (by kernel_rfl)
    (fieldC_bare1F q) (fieldC_bare1V x q) (fieldC_bare1P x q w1) ?cong ?st ?t0 ?op ?skip ?done
  case cong =>
    intro i d d' W hi hj h
    have hi : i < 11 := hi
    obtain rfl | rfl | rfl | rfl | rfl | rfl | rfl | rfl | rfl | rfl | rfl : i = 0 ∨ i = 1 ∨ i = 2 ∨ i = 3 ∨ i = 4 ∨ i = 5 ∨ i = 6 ∨ i = 7 ∨ i = 8 ∨ i = 9 ∨ i = 10 := by omega
    all_goals exact h
  case st =>
    intro i j d W W' hi hj hij hsp hr h hF
    have hi : i < 10 := hi
    have hj : j < 11 := hj
    unfold fieldC_bare1F at hF
    by_cases hs : i = 7 ∨ i = 9
    · rw [if_pos hs] at hF
      by_cases hjs : j = 7 ∨ j = 9 ∨ j = 10
      · exfalso
        rcases hs with rfl | rfl <;> rcases hjs with rfl | rfl | rfl
        all_goals first
          | exact hij rfl
          | (simp at hsp; done)
          | exact absurd (show reach _ 2 _ _ = true by kernel_rfl) (by rw [hr]; decide)
      · obtain rfl | rfl | rfl | rfl | rfl | rfl | rfl | rfl : j = 0 ∨ j = 1 ∨ j = 2 ∨ j = 3 ∨ j = 4 ∨ j = 5 ∨ j = 6 ∨ j = 8 := by omega
        all_goals trivial
    · rw [if_neg hs] at hF
      by_cases hjs : j = 7 ∨ j = 9 ∨ j = 10
      · rcases hjs with rfl | rfl | rfl
        all_goals exact ⟨Blk.kp h.1 hF (fun f => f), Kp.trans' h.2 hF (fun _ f _ => f.elim)⟩
      · obtain rfl | rfl | rfl | rfl | rfl | rfl | rfl | rfl : j = 0 ∨ j = 1 ∨ j = 2 ∨ j = 3 ∨ j = 4 ∨ j = 5 ∨ j = 6 ∨ j = 8 := by omega
        all_goals trivial
  case t0 =>
    intro j d hj
    obtain rfl : j = 0 := by omega
    exact ⟨Blk.drew HB.out, Kp.drew (Kp.refl _ _)⟩
  case op =>
    intro i o ho u W hdep hV _ _ K hK
    simp only [over, List.foldl_cons, List.foldl_nil, List.setIfInBounds_toArray, List.set_cons_zero, List.set_cons_succ, List.set_nil, List.getD_cons_zero, List.getD_cons_succ, Array.getD_eq_getD_getElem?, List.getElem?_toArray] at hK hdep hV ⊢
    match i, ho with
    | 0, ho =>
      simp only [List.getElem?_toArray, List.getElem?_cons_zero, List.getElem?_cons_succ, Option.some.injEq] at ho
      subst ho
      go_wp2
      exact hK _ _ rfl trivial (Kp.refl _ _)
    | 1, ho =>
      simp only [List.getElem?_toArray, List.getElem?_cons_zero, List.getElem?_cons_succ, Option.some.injEq] at ho
      subst ho
      have v0 : u 5 = .pointer (some ⟨q, 0, none⟩) := hV 0 (by kernel_rfl)
      obtain ⟨hb, hk⟩ := hdep 10 (by simp)
      have hc := Blk.cell hb 0
      simp only [List.getElem?_toArray, List.getElem?_cons_zero, List.getElem?_cons_succ] at hc
      simp only [v0] at hK ⊢
      go_wp2
      exact hK _ _ rfl trivial (Kp.refl _ _)
    | 2, ho =>
      simp only [List.getElem?_toArray, List.getElem?_cons_zero, List.getElem?_cons_succ, Option.some.injEq] at ho
      subst ho
      have v1 : u 6 = .string x.name := hV 1 (by kernel_rfl)
      simp only [v1] at hK ⊢
      go_wp2_with fail
      refine (cloneQ_any _ _ hname).mono ?_
      rintro e w2 ⟨rfl, hk2⟩
      exact hK _ _ rfl trivial hk2
    | 3, ho =>
      simp only [List.getElem?_toArray, List.getElem?_cons_zero, List.getElem?_cons_succ, Option.some.injEq] at ho
      subst ho
      go_wp2
      exact hK _ _ rfl trivial (Kp.refl _ _)
    | 4, ho =>
      simp only [List.getElem?_toArray, List.getElem?_cons_zero, List.getElem?_cons_succ, Option.some.injEq] at ho
      subst ho
      have v3 : u 8 = .pointer (some ⟨q, 1, none⟩) := hV 3 (by kernel_rfl)
      obtain ⟨hb, hk⟩ := hdep 10 (by simp)
      have hc := Blk.cell hb 1
      simp only [List.getElem?_toArray, List.getElem?_cons_zero, List.getElem?_cons_succ] at hc
      simp only [v3] at hK ⊢
      go_wp2
      exact hK _ _ rfl trivial (Kp.refl _ _)
    | 5, ho =>
      simp only [List.getElem?_toArray, List.getElem?_cons_zero, List.getElem?_cons_succ, Option.some.injEq] at ho
      subst ho
      have v4 : u 9 = .string x.typ := hV 4 (by kernel_rfl)
      simp only [v4] at hK ⊢
      go_wp2_with fail
      refine (cloneQ_any _ _ htyp).mono ?_
      rintro e w2 ⟨rfl, hk2⟩
      exact hK _ _ rfl trivial hk2
    | 6, ho =>
      simp only [List.getElem?_toArray, List.getElem?_cons_zero, List.getElem?_cons_succ, Option.some.injEq] at ho
      subst ho
      go_wp2
      exact hK _ _ rfl trivial (Kp.refl _ _)
    | 7, ho =>
      simp only [List.getElem?_toArray, List.getElem?_cons_zero, List.getElem?_cons_succ, Option.some.injEq] at ho
      subst ho
      have v6 : u 11 = .pointer (some ⟨q, 0, none⟩) := hV 6 (by kernel_rfl)
      have v2 : u 7 = .string x.name := hV 2 (by kernel_rfl)
      obtain ⟨hb, hk⟩ := hdep 10 (by simp)
      have hc := Blk.cell hb 0
      have hf := Blk.frozen hb 0
      simp only [List.getElem?_toArray, List.getElem?_cons_zero, List.getElem?_cons_succ] at hc
      simp only [v6, v2] at hK ⊢
      go_wp2
      exact hK undef _ trivial ⟨Blk.set_ hb 0 _, Kp.setCell hk (fun _ => rfl) _⟩ (Kp.setCell (S := fun k => k = q) (Kp.refl _ W) (fun _ => rfl) _)
    | 8, ho =>
      simp only [List.getElem?_toArray, List.getElem?_cons_zero, List.getElem?_cons_succ, Option.some.injEq] at ho
      subst ho
      go_wp2
      exact hK _ _ rfl trivial (Kp.refl _ _)
    | 9, ho =>
      simp only [List.getElem?_toArray, List.getElem?_cons_zero, List.getElem?_cons_succ, Option.some.injEq] at ho
      subst ho
      have v8 : u 12 = .pointer (some ⟨q, 1, none⟩) := hV 8 (by kernel_rfl)
      have v5 : u 10 = .string x.typ := hV 5 (by kernel_rfl)
      obtain ⟨hb, hk⟩ := hdep 7 (by simp)
      have hc := Blk.cell hb 1
      have hf := Blk.frozen hb 1
      simp only [List.getElem?_toArray, List.getElem?_cons_zero, List.getElem?_cons_succ] at hc
      simp only [v8, v5] at hK ⊢
      go_wp2
      exact hK undef _ trivial ⟨Blk.set_ hb 1 _, Kp.setCell hk (fun _ => rfl) _⟩ (Kp.setCell (S := fun k => k = q) (Kp.refl _ W) (fun _ => rfl) _)
    | k + 10, ho => simp at ho
  case skip =>
    intro i o g b ho hg
    rw [no_guard (by kernel_rfl) ho] at hg
    cases hg
  case done =>
    intro u W1 hV hP
    obtain ⟨hb1, hk1⟩ := hP 9 (by decide) (by decide)
    clear hV hP
    have HK1_ := Lib.hid (Kp.trans' HK0.out hk1 (fun i e hi => by have := HQ.out; omega))
    have HR1 := Lib.hid (HR.out.kp hk1 (by omega))
    clear HB hk1
    have HB := Lib.hid hb1
    clear hb1
    simp only [over, List.foldl_cons, List.foldl_nil, List.setIfInBounds_toArray, List.set_cons_zero, List.set_cons_succ, List.set_nil, List.getD_cons_zero, List.getD_cons_succ, Array.getD_eq_getD_getElem?, List.getElem?_toArray]
    go_wp2_with fail
    refine wp_region_flow (by kernel_rfl) 37 1 2 (fun i => match i with | 1 => [10] | 4 => [10] | 7 => [10] | 9 => [7] | _ => []) (fun _ => []) (fun i => match i with | 7 => [10] | 9 => [10, 7] | _ => []) (fun i => ([13, 14, 15, 16, 17, 18, 19, 44, 20, 46, 47] : List Nat).getD i 0) (by kernel_rfl) rfl [13, 14, 15, 16, 17, 18, 19, 44, 20, 46, 47] (by kernel_rfl)
      (fieldC_bare2F q) (fieldC_bare2V x q) (fieldC_bare2P x q W1) ?cong ?st ?t0 ?op ?skip ?done
    case cong =>
      intro i d d' W hi hj h
      have hi : i < 11 := hi
      obtain rfl | rfl | rfl | rfl | rfl | rfl | rfl | rfl | rfl | rfl | rfl : i = 0 ∨ i = 1 ∨ i = 2 ∨ i = 3 ∨ i = 4 ∨ i = 5 ∨ i = 6 ∨ i = 7 ∨ i = 8 ∨ i = 9 ∨ i = 10 := by omega
      all_goals exact h
    case st =>
      intro i j d W W' hi hj hij hsp hr h hF
      have hi : i < 10 := hi
      have hj : j < 11 := hj
      unfold fieldC_bare2F at hF
      by_cases hs : i = 7 ∨ i = 9
      · rw [if_pos hs] at hF
        by_cases hjs : j = 7 ∨ j = 9 ∨ j = 10
        · exfalso
          rcases hs with rfl | rfl <;> rcases hjs with rfl | rfl | rfl
          all_goals first
            | exact hij rfl
            | (simp at hsp; done)
            | exact absurd (show reach _ 2 _ _ = true by kernel_rfl) (by rw [hr]; decide)
        · obtain rfl | rfl | rfl | rfl | rfl | rfl | rfl | rfl : j = 0 ∨ j = 1 ∨ j = 2 ∨ j = 3 ∨ j = 4 ∨ j = 5 ∨ j = 6 ∨ j = 8 := by omega
          all_goals trivial
      · rw [if_neg hs] at hF
        by_cases hjs : j = 7 ∨ j = 9 ∨ j = 10
        · rcases hjs with rfl | rfl | rfl
          all_goals exact ⟨Blk.kp h.1 hF (fun f => f), Kp.trans' h.2 hF (fun _ f _ => f.elim)⟩
        · obtain rfl | rfl | rfl | rfl | rfl | rfl | rfl | rfl : j = 0 ∨ j = 1 ∨ j = 2 ∨ j = 3 ∨ j = 4 ∨ j = 5 ∨ j = 6 ∨ j = 8 := by omega
          all_goals trivial
    case t0 =>
      intro j d hj
      obtain rfl : j = 0 := by omega
      exact ⟨Blk.drew HB.out, Kp.drew (Kp.refl _ _)⟩
    case op =>
      intro i o ho u W hdep hV _ _ K hK
      simp only [over, List.foldl_cons, List.foldl_nil, List.setIfInBounds_toArray, List.set_cons_zero, List.set_cons_succ, List.set_nil, List.getD_cons_zero, List.getD_cons_succ, Array.getD_eq_getD_getElem?, List.getElem?_toArray] at hK hdep hV ⊢
      match i, ho with
      | 0, ho =>
        simp only [List.getElem?_toArray, List.getElem?_cons_zero, List.getElem?_cons_succ, Option.some.injEq] at ho
        subst ho
        go_wp2
        exact hK _ _ rfl trivial (Kp.refl _ _)
      | 1, ho =>
        simp only [List.getElem?_toArray, List.getElem?_cons_zero, List.getElem?_cons_succ, Option.some.injEq] at ho
        subst ho
        have v0 : u 13 = .pointer (some ⟨q, 2, none⟩) := hV 0 (by kernel_rfl)
        obtain ⟨hb, hk⟩ := hdep 10 (by simp)
        have hc := Blk.cell hb 2
        simp only [List.getElem?_toArray, List.getElem?_cons_zero, List.getElem?_cons_succ] at hc
        simp only [v0] at hK ⊢
        go_wp2
        exact hK _ _ rfl trivial (Kp.refl _ _)
      | 2, ho =>
        simp only [List.getElem?_toArray, List.getElem?_cons_zero, List.getElem?_cons_succ, Option.some.injEq] at ho
        subst ho
        have v1 : u 14 = .string x.key := hV 1 (by kernel_rfl)
        simp only [v1] at hK ⊢
        go_wp2_with fail
        refine (cloneQ_any _ _ hkey).mono ?_
        rintro e w2 ⟨rfl, hk2⟩
        exact hK _ _ rfl trivial hk2
      | 3, ho =>
        simp only [List.getElem?_toArray, List.getElem?_cons_zero, List.getElem?_cons_succ, Option.some.injEq] at ho
        subst ho
        go_wp2
        exact hK _ _ rfl trivial (Kp.refl _ _)
      | 4, ho =>
        simp only [List.getElem?_toArray, List.getElem?_cons_zero, List.getElem?_cons_succ, Option.some.injEq] at ho
        subst ho
        have v3 : u 16 = .pointer (some ⟨q, 3, none⟩) := hV 3 (by kernel_rfl)
        obtain ⟨hb, hk⟩ := hdep 10 (by simp)
        have hc := Blk.cell hb 3
        simp only [List.getElem?_toArray, List.getElem?_cons_zero, List.getElem?_cons_succ] at hc
        simp only [v3] at hK ⊢
        go_wp2
        exact hK _ _ rfl trivial (Kp.refl _ _)
      | 5, ho =>
        simp only [List.getElem?_toArray, List.getElem?_cons_zero, List.getElem?_cons_succ, Option.some.injEq] at ho
        subst ho
        have v4 : u 17 = .string x.json := hV 4 (by kernel_rfl)
        simp only [v4] at hK ⊢
        go_wp2_with fail
        refine (cloneQ_any _ _ hjson).mono ?_
        rintro e w2 ⟨rfl, hk2⟩
        exact hK _ _ rfl trivial hk2
      | 6, ho =>
        simp only [List.getElem?_toArray, List.getElem?_cons_zero, List.getElem?_cons_succ, Option.some.injEq] at ho
        subst ho
        go_wp2
        exact hK _ _ rfl trivial (Kp.refl _ _)
      | 7, ho =>
        simp only [List.getElem?_toArray, List.getElem?_cons_zero, List.getElem?_cons_succ, Option.some.injEq] at ho
        subst ho
        have v6 : u 19 = .pointer (some ⟨q, 2, none⟩) := hV 6 (by kernel_rfl)
        have v2 : u 15 = .string x.key := hV 2 (by kernel_rfl)
        obtain ⟨hb, hk⟩ := hdep 10 (by simp)
        have hc := Blk.cell hb 2
        have hf := Blk.frozen hb 2
        simp only [List.getElem?_toArray, List.getElem?_cons_zero, List.getElem?_cons_succ] at hc
        simp only [v6, v2] at hK ⊢
        go_wp2
        exact hK undef _ trivial ⟨Blk.set_ hb 2 _, Kp.setCell hk (fun _ => rfl) _⟩ (Kp.setCell (S := fun k => k = q) (Kp.refl _ W) (fun _ => rfl) _)
      | 8, ho =>
        simp only [List.getElem?_toArray, List.getElem?_cons_zero, List.getElem?_cons_succ, Option.some.injEq] at ho
        subst ho
        go_wp2
        exact hK _ _ rfl trivial (Kp.refl _ _)
      | 9, ho =>
        simp only [List.getElem?_toArray, List.getElem?_cons_zero, List.getElem?_cons_succ, Option.some.injEq] at ho
        subst ho
        have v8 : u 20 = .pointer (some ⟨q, 3, none⟩) := hV 8 (by kernel_rfl)
        have v5 : u 18 = .string x.json := hV 5 (by kernel_rfl)
        obtain ⟨hb, hk⟩ := hdep 7 (by simp)
        have hc := Blk.cell hb 3
        have hf := Blk.frozen hb 3
        simp only [List.getElem?_toArray, List.getElem?_cons_zero, List.getElem?_cons_succ] at hc
        simp only [v8, v5] at hK ⊢
        go_wp2
        exact hK undef _ trivial ⟨Blk.set_ hb 3 _, Kp.setCell hk (fun _ => rfl) _⟩ (Kp.setCell (S := fun k => k = q) (Kp.refl _ W) (fun _ => rfl) _)
      | k + 10, ho => simp at ho
    case skip =>
      intro i o g b ho hg
      rw [no_guard (by kernel_rfl) ho] at hg
      cases hg
    case done =>
      intro u W2 hV hP
      obtain ⟨hb2, hk2⟩ := hP 9 (by decide) (by decide)
      clear hV hP
      have HK2_ := Lib.hid (Kp.trans' HK1_.out hk2 (fun i e hi => by have := HQ.out; omega))
      have HR2 := Lib.hid (HR1.out.kp hk2 (by omega))
      clear HB hk2
      have HB := Lib.hid hb2
      clear hb2
      simp only [over, List.foldl_cons, List.foldl_nil, List.setIfInBounds_toArray, List.set_cons_zero, List.set_cons_succ, List.set_nil, List.getD_cons_zero, List.getD_cons_succ, Array.getD_eq_getD_getElem?, List.getElem?_toArray]
      go_wp2_with fail
      refine wp_region_flow (by kernel_rfl) 37 1 2 (fun i => match i with | 2 => [18] | 6 => [18] | 10 => [18] | 13 => [18] | 15 => [13] | 17 => [15] | _ => []) (fun _ => []) (fun i => match i with | 13 => [18] | 15 => [18, 13] | 17 => [18, 13, 15] | _ => []) (fun i => ([21, 22, 23, 24, 25, 26, 27, 28, 29, 30, 31, 32, 33, 50, 34, 52, 35, 54, 55] : List Nat).getD i 0) (by kernel_rfl) rfl [21, 22, 23, 24, 25, 26, 27, 28, 29, 30, 31, 32, 33, 50, 34, 52, 35, 54, 55] (by kernel_rfl)
        (fieldC_bare3F q) (fieldC_bare3V x q) (fieldC_bare3P x q W2) ?cong ?st ?t0 ?op ?skip ?done
      case cong =>
        intro i d d' W hi hj h
        have hi : i < 19 := hi
        obtain rfl | rfl | rfl | rfl | rfl | rfl | rfl | rfl | rfl | rfl | rfl | rfl | rfl | rfl | rfl | rfl | rfl | rfl | rfl : i = 0 ∨ i = 1 ∨ i = 2 ∨ i = 3 ∨ i = 4 ∨ i = 5 ∨ i = 6 ∨ i = 7 ∨ i = 8 ∨ i = 9 ∨ i = 10 ∨ i = 11 ∨ i = 12 ∨ i = 13 ∨ i = 14 ∨ i = 15 ∨ i = 16 ∨ i = 17 ∨ i = 18 := by omega
        all_goals exact h
      case st =>
        intro i j d W W' hi hj hij hsp hr h hF
        have hi : i < 18 := hi
        have hj : j < 19 := hj
        unfold fieldC_bare3F at hF
        by_cases hs : i = 13 ∨ i = 15 ∨ i = 17
        · rw [if_pos hs] at hF
          by_cases hjs : j = 13 ∨ j = 15 ∨ j = 17 ∨ j = 18
          · exfalso
            rcases hs with rfl | rfl | rfl <;> rcases hjs with rfl | rfl | rfl | rfl
            all_goals first
              | exact hij rfl
              | (simp at hsp; done)
              | exact absurd (show reach _ 2 _ _ = true by kernel_rfl) (by rw [hr]; decide)
          · obtain rfl | rfl | rfl | rfl | rfl | rfl | rfl | rfl | rfl | rfl | rfl | rfl | rfl | rfl | rfl : j = 0 ∨ j = 1 ∨ j = 2 ∨ j = 3 ∨ j = 4 ∨ j = 5 ∨ j = 6 ∨ j = 7 ∨ j = 8 ∨ j = 9 ∨ j = 10 ∨ j = 11 ∨ j = 12 ∨ j = 14 ∨ j = 16 := by omega
            all_goals trivial
        · rw [if_neg hs] at hF
          by_cases hjs : j = 13 ∨ j = 15 ∨ j = 17 ∨ j = 18
          · rcases hjs with rfl | rfl | rfl | rfl
            all_goals exact ⟨Blk.kp h.1 hF (fun f => f), Kp.trans' h.2 hF (fun _ f _ => f.elim)⟩
          · obtain rfl | rfl | rfl | rfl | rfl | rfl | rfl | rfl | rfl | rfl | rfl | rfl | rfl | rfl | rfl : j = 0 ∨ j = 1 ∨ j = 2 ∨ j = 3 ∨ j = 4 ∨ j = 5 ∨ j = 6 ∨ j = 7 ∨ j = 8 ∨ j = 9 ∨ j = 10 ∨ j = 11 ∨ j = 12 ∨ j = 14 ∨ j = 16 := by omega
            all_goals trivial
      case t0 =>
        intro j d hj
        obtain rfl : j = 0 := by omega
        exact ⟨Blk.drew HB.out, Kp.drew (Kp.refl _ _)⟩
      case op =>
        intro i o ho u W hdep hV _ _ K hK
        simp only [over, List.foldl_cons, List.foldl_nil, List.setIfInBounds_toArray, List.set_cons_zero, List.set_cons_succ, List.set_nil, List.getD_cons_zero, List.getD_cons_succ, Array.getD_eq_getD_getElem?, List.getElem?_toArray] at hK hdep hV ⊢
        match i, ho with
        | 0, ho =>
          simp only [List.getElem?_toArray, List.getElem?_cons_zero, List.getElem?_cons_succ, Option.some.injEq] at ho
          subst ho
          go_wp2
          exact hK _ _ rfl trivial (Kp.refl _ _)
        | 1, ho =>
          simp only [List.getElem?_toArray, List.getElem?_cons_zero, List.getElem?_cons_succ, Option.some.injEq] at ho
          subst ho
          go_wp2
          exact hK _ _ rfl trivial (Kp.refl _ _)
        | 2, ho =>
          simp only [List.getElem?_toArray, List.getElem?_cons_zero, List.getElem?_cons_succ, Option.some.injEq] at ho
          subst ho
          have v1 : u 22 = .pointer (some ⟨q, 7, none⟩) := hV 1 (by kernel_rfl)
          obtain ⟨hb, hk⟩ := hdep 18 (by simp)
          have hc := Blk.cell hb 7
          simp only [List.getElem?_toArray, List.getElem?_cons_zero, List.getElem?_cons_succ] at hc
          simp only [v1] at hK ⊢
          go_wp2
          exact hK _ _ rfl trivial (Kp.refl _ _)
        | 3, ho =>
          simp only [List.getElem?_toArray, List.getElem?_cons_zero, List.getElem?_cons_succ, Option.some.injEq] at ho
          subst ho
          have v0 : u 21 = .func (.func 49) #[] #[] := hV 0 (by kernel_rfl)
          have v2 : u 23 = .int .i64 x.at_ := hV 2 (by kernel_rfl)
          simp only [v0, v2] at hK ⊢
          go_wp2_with fail
          refine (place_bare _ _).mono ?_
          rintro e w2 ⟨rfl, hk2⟩
          exact hK _ _ rfl trivial hk2
        | 4, ho =>
          simp only [List.getElem?_toArray, List.getElem?_cons_zero, List.getElem?_cons_succ, Option.some.injEq] at ho
          subst ho
          go_wp2
          exact hK _ _ rfl trivial (Kp.refl _ _)
        | 5, ho =>
          simp only [List.getElem?_toArray, List.getElem?_cons_zero, List.getElem?_cons_succ, Option.some.injEq] at ho
          subst ho
          go_wp2
          exact hK _ _ rfl trivial (Kp.refl _ _)
        | 6, ho =>
          simp only [List.getElem?_toArray, List.getElem?_cons_zero, List.getElem?_cons_succ, Option.some.injEq] at ho
          subst ho
          have v5 : u 26 = .pointer (some ⟨q, 8, none⟩) := hV 5 (by kernel_rfl)
          obtain ⟨hb, hk⟩ := hdep 18 (by simp)
          have hc := Blk.cell hb 8
          simp only [List.getElem?_toArray, List.getElem?_cons_zero, List.getElem?_cons_succ] at hc
          simp only [v5] at hK ⊢
          go_wp2
          exact hK _ _ rfl trivial (Kp.refl _ _)
        | 7, ho =>
          simp only [List.getElem?_toArray, List.getElem?_cons_zero, List.getElem?_cons_succ, Option.some.injEq] at ho
          subst ho
          have v4 : u 25 = .func (.func 49) #[] #[] := hV 4 (by kernel_rfl)
          have v6 : u 27 = .int .i64 x.tat := hV 6 (by kernel_rfl)
          simp only [v4, v6] at hK ⊢
          go_wp2_with fail
          refine (place_bare _ _).mono ?_
          rintro e w2 ⟨rfl, hk2⟩
          exact hK _ _ rfl trivial hk2
        | 8, ho =>
          simp only [List.getElem?_toArray, List.getElem?_cons_zero, List.getElem?_cons_succ, Option.some.injEq] at ho
          subst ho
          go_wp2
          exact hK _ _ rfl trivial (Kp.refl _ _)
        | 9, ho =>
          simp only [List.getElem?_toArray, List.getElem?_cons_zero, List.getElem?_cons_succ, Option.some.injEq] at ho
          subst ho
          go_wp2
          exact hK _ _ rfl trivial (Kp.refl _ _)
        | 10, ho =>
          simp only [List.getElem?_toArray, List.getElem?_cons_zero, List.getElem?_cons_succ, Option.some.injEq] at ho
          subst ho
          have v9 : u 30 = .pointer (some ⟨q, 9, none⟩) := hV 9 (by kernel_rfl)
          obtain ⟨hb, hk⟩ := hdep 18 (by simp)
          have hc := Blk.cell hb 9
          simp only [List.getElem?_toArray, List.getElem?_cons_zero, List.getElem?_cons_succ] at hc
          simp only [v9] at hK ⊢
          go_wp2
          exact hK _ _ rfl trivial (Kp.refl _ _)
        | 11, ho =>
          simp only [List.getElem?_toArray, List.getElem?_cons_zero, List.getElem?_cons_succ, Option.some.injEq] at ho
          subst ho
          have v8 : u 29 = .func (.func 49) #[] #[] := hV 8 (by kernel_rfl)
          have v10 : u 31 = .int .i64 x.nat_ := hV 10 (by kernel_rfl)
          simp only [v8, v10] at hK ⊢
          go_wp2_with fail
          refine (place_bare _ _).mono ?_
          rintro e w2 ⟨rfl, hk2⟩
          exact hK _ _ rfl trivial hk2
        | 12, ho =>
          simp only [List.getElem?_toArray, List.getElem?_cons_zero, List.getElem?_cons_succ, Option.some.injEq] at ho
          subst ho
          go_wp2
          exact hK _ _ rfl trivial (Kp.refl _ _)
        | 13, ho =>
          simp only [List.getElem?_toArray, List.getElem?_cons_zero, List.getElem?_cons_succ, Option.some.injEq] at ho
          subst ho
          have v12 : u 33 = .pointer (some ⟨q, 7, none⟩) := hV 12 (by kernel_rfl)
          have v3 : u 24 = .int .i64 (0) := hV 3 (by kernel_rfl)
          obtain ⟨hb, hk⟩ := hdep 18 (by simp)
          have hc := Blk.cell hb 7
          have hf := Blk.frozen hb 7
          simp only [List.getElem?_toArray, List.getElem?_cons_zero, List.getElem?_cons_succ] at hc
          simp only [v12, v3] at hK ⊢
          go_wp2
          exact hK undef _ trivial ⟨Blk.set_ hb 7 _, Kp.setCell hk (fun _ => rfl) _⟩ (Kp.setCell (S := fun k => k = q) (Kp.refl _ W) (fun _ => rfl) _)
        | 14, ho =>
          simp only [List.getElem?_toArray, List.getElem?_cons_zero, List.getElem?_cons_succ, Option.some.injEq] at ho
          subst ho
          go_wp2
          exact hK _ _ rfl trivial (Kp.refl _ _)
        | 15, ho =>
          simp only [List.getElem?_toArray, List.getElem?_cons_zero, List.getElem?_cons_succ, Option.some.injEq] at ho
          subst ho
          have v14 : u 34 = .pointer (some ⟨q, 8, none⟩) := hV 14 (by kernel_rfl)
          have v7 : u 28 = .int .i64 (0) := hV 7 (by kernel_rfl)
          obtain ⟨hb, hk⟩ := hdep 13 (by simp)
          have hc := Blk.cell hb 8
          have hf := Blk.frozen hb 8
          simp only [List.getElem?_toArray, List.getElem?_cons_zero, List.getElem?_cons_succ] at hc
          simp only [v14, v7] at hK ⊢
          go_wp2
          exact hK undef _ trivial ⟨Blk.set_ hb 8 _, Kp.setCell hk (fun _ => rfl) _⟩ (Kp.setCell (S := fun k => k = q) (Kp.refl _ W) (fun _ => rfl) _)
        | 16, ho =>
          simp only [List.getElem?_toArray, List.getElem?_cons_zero, List.getElem?_cons_succ, Option.some.injEq] at ho
          subst ho
          go_wp2
          exact hK _ _ rfl trivial (Kp.refl _ _)
        | 17, ho =>
          simp only [List.getElem?_toArray, List.getElem?_cons_zero, List.getElem?_cons_succ, Option.some.injEq] at ho
          subst ho
          have v16 : u 35 = .pointer (some ⟨q, 9, none⟩) := hV 16 (by kernel_rfl)
          have v11 : u 32 = .int .i64 (0) := hV 11 (by kernel_rfl)
          obtain ⟨hb, hk⟩ := hdep 15 (by simp)
          have hc := Blk.cell hb 9
          have hf := Blk.frozen hb 9
          simp only [List.getElem?_toArray, List.getElem?_cons_zero, List.getElem?_cons_succ] at hc
          simp only [v16, v11] at hK ⊢
          go_wp2
          exact hK undef _ trivial ⟨Blk.set_ hb 9 _, Kp.setCell hk (fun _ => rfl) _⟩ (Kp.setCell (S := fun k => k = q) (Kp.refl _ W) (fun _ => rfl) _)
        | k + 18, ho => simp at ho
      case skip =>
        intro i o g b ho hg
        rw [no_guard (by kernel_rfl) ho] at hg
        cases hg
      case done =>
        intro u W3 hV hP
        obtain ⟨hb3, hk3⟩ := hP 17 (by decide) (by decide)
        clear hV hP
        have HK3_ := Lib.hid (Kp.trans' HK2_.out hk3 (fun i e hi => by have := HQ.out; omega))
        have HR3 := Lib.hid (HR2.out.kp hk3 (by omega))
        clear HB hk3
        have HB := Lib.hid hb3
        clear hb3
        simp only [over, List.foldl_cons, List.foldl_nil, List.setIfInBounds_toArray, List.set_cons_zero, List.set_cons_succ, List.set_nil, List.getD_cons_zero, List.getD_cons_succ, Array.getD_eq_getD_getElem?, List.getElem?_toArray]
        have bc := HB.out.cell
        have b0 := bc 0
        have b1 := bc 1
        have b2 := bc 2
        have b3 := bc 3
        have b4 := bc 4
        have b5 := bc 5
        have b6 := bc 6
        have b7 := bc 7
        have b8 := bc 8
        have b9 := bc 9
        have rc := HR3.out.cell
        have r0 := rc 0
        have r1 := rc 1
        have r2 := rc 2
        have r3 := rc 3
        have r4 := rc 4
        have r5 := rc 5
        have r6 := rc 6
        have r7 := rc 7
        have r8 := rc 8
        have r9 := rc 9
        have rf := HR3.out.frozen
        have z0 := rf 0
        have z1 := rf 1
        have z2 := rf 2
        have z3 := rf 3
        have z4 := rf 4
        have z5 := rf 5
        have z6 := rf 6
        have z7 := rf 7
        have z8 := rf 8
        have z9 := rf 9
        simp only [List.getElem?_toArray, List.getElem?_cons_zero, List.getElem?_cons_succ] at b0 r0 b1 r1 b2 r2 b3 r3 b4 r4 b5 r5 b6 r6 b7 r7 b8 r8 b9 r9
        clear bc rc rf
        go_wp2_with fail
        have HF := ((((((((((HR3.out.set_ 0 (.string x.name)).set_ 1 (.string x.typ)).set_ 2 (.string x.key)).set_ 3 (.string x.json)).set_ 4 (.int .i64 x.card)).set_ 5 (.int .i64 x.num)).set_ 6 (.int .i64 x.oneof)).set_ 7 (.int .i64 (0))).set_ 8 (.int .i64 (0))).set_ 9 (.int .i64 (0)))
        have f0 := HF.cell 0
        have f1 := HF.cell 1
        have f2 := HF.cell 2
        have f3 := HF.cell 3
        have f4 := HF.cell 4
        have f5 := HF.cell 5
        have f6 := HF.cell 6
        have f7 := HF.cell 7
        have f8 := HF.cell 8
        have f9 := HF.cell 9
        simp only [List.setIfInBounds_toArray, List.set_cons_zero, List.set_cons_succ, List.getElem?_toArray, List.getElem?_cons_zero, List.getElem?_cons_succ] at f0 f1 f2 f3 f4 f5 f6 f7 f8 f9
        refine bodyPost_ret (v := .agg #[.string x.name, .string x.typ, .string x.key, .string x.json, .int .i64 x.card, .int .i64 x.num, .int .i64 x.oneof, .int .i64 (0), .int .i64 (0), .int .i64 (0)]) (by simp [results, Tryz.results126, go_sem, f0, f1, f2, f3, f4, f5, f6, f7, f8, f9]) rfl ⟨rfl, (Kp.setCell (Kp.setCell (Kp.setCell (Kp.setCell (Kp.setCell (Kp.setCell (Kp.setCell (Kp.setCell (Kp.setCell (Kp.setCell HK3_.out (p := ⟨q + 1, 0, none⟩) (fun h => by have h2 : q + 1 < w.heap.size := h; have := HQ.out; omega) _) (p := ⟨q + 1, 1, none⟩) (fun h => by have h2 : q + 1 < w.heap.size := h; have := HQ.out; omega) _) (p := ⟨q + 1, 2, none⟩) (fun h => by have h2 : q + 1 < w.heap.size := h; have := HQ.out; omega) _) (p := ⟨q + 1, 3, none⟩) (fun h => by have h2 : q + 1 < w.heap.size := h; have := HQ.out; omega) _) (p := ⟨q + 1, 4, none⟩) (fun h => by have h2 : q + 1 < w.heap.size := h; have := HQ.out; omega) _) (p := ⟨q + 1, 5, none⟩) (fun h => by have h2 : q + 1 < w.heap.size := h; have := HQ.out; omega) _) (p := ⟨q + 1, 6, none⟩) (fun h => by have h2 : q + 1 < w.heap.size := h; have := HQ.out; omega) _) (p := ⟨q + 1, 7, none⟩) (fun h => by have h2 : q + 1 < w.heap.size := h; have := HQ.out; omega) _) (p := ⟨q + 1, 8, none⟩) (fun h => by have h2 : q + 1 < w.heap.size := h; have := HQ.out; omega) _) (p := ⟨q + 1, 9, none⟩) (fun h => by have h2 : q + 1 < w.heap.size := h; have := HQ.out; omega) _)⟩
def rpcC_bare1V (x : Rp) (q : Nat) : Nat → Value → Prop
  | 0, v => v = .pointer (some ⟨q, 0, none⟩)
  | 1, v => v = .string x.name
  | 2, v => v = .string x.name
  | 3, v => v = .pointer (some ⟨q, 1, none⟩)
  | 4, v => v = .string x.inn
  | 5, v => v = .string x.inn
  | 6, v => v = .pointer (some ⟨q, 2, none⟩)
  | 7, v => v = .string x.out
  | 8, v => v = .string x.out
  | 9, v => v = .pointer (some ⟨q, 0, none⟩)
  | 11, v => v = .pointer (some ⟨q, 1, none⟩)
  | 13, v => v = .pointer (some ⟨q, 2, none⟩)
  | _, _ => True
def rpcC_bare1P (x : Rp) (q : Nat) (w1 : World) : Nat → (Nat → Value) → World → Prop
  | 10, _, W => Blk W q 91 #[.string x.name, .string x.inn, .string x.out, .int .i64 x.at_, .int .i64 x.iat, .int .i64 x.oat] ∧ Kp (fun k => k = q) w1 W
  | 12, _, W => Blk W q 91 #[.string x.name, .string x.inn, .string x.out, .int .i64 x.at_, .int .i64 x.iat, .int .i64 x.oat] ∧ Kp (fun k => k = q) w1 W
  | 14, _, W => Blk W q 91 #[.string x.name, .string x.inn, .string x.out, .int .i64 x.at_, .int .i64 x.iat, .int .i64 x.oat] ∧ Kp (fun k => k = q) w1 W
  | 15, _, W => Blk W q 91 #[.string x.name, .string x.inn, .string x.out, .int .i64 x.at_, .int .i64 x.iat, .int .i64 x.oat] ∧ Kp (fun k => k = q) w1 W
  | _, _, _ => True
def rpcC_bare1F (q : Nat) (i : Nat) (W W' : World) : Prop := if i = 10 ∨ i = 12 ∨ i = 14 then Kp (fun k => k = q) W W' else Kn W W'
def rpcC_bare2V (x : Rp) (q : Nat) : Nat → Value → Prop
  | 0, v => v = .func (.func 49) #[] #[]
  | 1, v => v = .pointer (some ⟨q, 3, none⟩)
  | 2, v => v = .int .i64 x.at_
  | 3, v => v = .int .i64 (0)
  | 4, v => v = .func (.func 49) #[] #[]
  | 5, v => v = .pointer (some ⟨q, 4, none⟩)
  | 6, v => v = .int .i64 x.iat
  | 7, v => v = .int .i64 (0)
  | 8, v => v = .func (.func 49) #[] #[]
  | 9, v => v = .pointer (some ⟨q, 5, none⟩)
  | 10, v => v = .int .i64 x.oat
  | 11, v => v = .int .i64 (0)
  | 12, v => v = .pointer (some ⟨q, 3, none⟩)
  | 14, v => v = .pointer (some ⟨q, 4, none⟩)
  | 16, v => v = .pointer (some ⟨q, 5, none⟩)
  | _, _ => True
def rpcC_bare2P (x : Rp) (q : Nat) (w1 : World) : Nat → (Nat → Value) → World → Prop
  | 13, _, W => Blk W q 91 #[.string x.name, .string x.inn, .string x.out, .int .i64 (0), .int .i64 x.iat, .int .i64 x.oat] ∧ Kp (fun k => k = q) w1 W
  | 15, _, W => Blk W q 91 #[.string x.name, .string x.inn, .string x.out, .int .i64 (0), .int .i64 (0), .int .i64 x.oat] ∧ Kp (fun k => k = q) w1 W
  | 17, _, W => Blk W q 91 #[.string x.name, .string x.inn, .string x.out, .int .i64 (0), .int .i64 (0), .int .i64 (0)] ∧ Kp (fun k => k = q) w1 W
  | 18, _, W => Blk W q 91 #[.string x.name, .string x.inn, .string x.out, .int .i64 x.at_, .int .i64 x.iat, .int .i64 x.oat] ∧ Kp (fun k => k = q) w1 W
  | _, _, _ => True
def rpcC_bare2F (q : Nat) (i : Nat) (W W' : World) : Prop := if i = 13 ∨ i = 15 ∨ i = 17 then Kp (fun k => k = q) W W' else Kn W W'
set_option maxRecDepth 100000 in
set_option maxHeartbeats 4000000 in
theorem rpcC_bare (x : Rp) (w : World) (hname : x.name.size ≤ 65536) (hinn : x.inn.size ≤ 65536) (hout : x.out.size ≤ 65536) : Calls Tryz.prog 134 #[.func (.func 49) #[] #[], .agg #[.string x.name, .string x.inn, .string x.out, .int .i64 x.at_, .int .i64 x.iat, .int .i64 x.oat]] w fun e w' => e = .returned (.agg #[.string x.name, .string x.inn, .string x.out, .int .i64 (0), .int .i64 (0), .int .i64 (0)]) ∧ Kn w w' := by
  go_enter Tryz.func134, Tryz.ntmps134
  go_wp2_with fail
  have HB := Lib.hid ((Blk.new w 91 #[.string x.name, .string x.inn, .string x.out, .int .i64 x.at_, .int .i64 x.iat, .int .i64 x.oat]).alloc (.cells #[.string ⟨#[]⟩, .string ⟨#[]⟩, .string ⟨#[]⟩, .int .i64 0, .int .i64 0, .int .i64 0] 91))
  have HR := Lib.hid (show Blk _ (w.heap.size + 1) 91 #[.string ⟨#[]⟩, .string ⟨#[]⟩, .string ⟨#[]⟩, .int .i64 0, .int .i64 0, .int .i64 0] by have := Blk.new (w.alloc (.cells #[.string x.name, .string x.inn, .string x.out, .int .i64 x.at_, .int .i64 x.iat, .int .i64 x.oat] 91)) 91 #[.string ⟨#[]⟩, .string ⟨#[]⟩, .string ⟨#[]⟩, .int .i64 0, .int .i64 0, .int .i64 0]; simpa using this)
  have HK0 := Lib.hid (show Kn w _ from ((Kp.refl (fun _ => False) w).alloc (.cells #[.string x.name, .string x.inn, .string x.out, .int .i64 x.at_, .int .i64 x.iat, .int .i64 x.oat] 91)).alloc (.cells #[.string ⟨#[]⟩, .string ⟨#[]⟩, .string ⟨#[]⟩, .int .i64 0, .int .i64 0, .int .i64 0] 91))
  obtain ⟨q, hq⟩ : ∃ q, q = w.heap.size := ⟨_, rfl⟩
  have HQ := Lib.hid hq
  simp only [← hq] at HB HR ⊢
  clear hq
  generalize World.alloc (World.alloc w _) _ = w1 at *
  refine wp_region_flow (by kernel_rfl) 33 1 2 (fun i => match i with | 1 => [15] | 4 => [15] | 7 => [15] | 10 => [15] | 12 => [10] | 14 => [12] | _ => []) (fun _ => []) (fun i => match i with | 10 => [15] | 12 => [15, 10] | 14 => [15, 10, 12] | _ => []) (fun i => ([5, 6, 7, 8, 9, 10, 11, 12, 13, 14, 43, 15, 45, 16, 47, 48] : List Nat).getD i 0) (by kernel_rfl) rfl [5, 6, 7, 8, 9, 10, 11, 12, 13, 14, 43, 15, 45, 16, 47, 48] (by kernel_rfl)
    (rpcC_bare1F q) (rpcC_bare1V x q) (rpcC_bare1P x q w1) ?cong ?st ?t0 ?op ?skip ?done
  case cong =>
    intro i d d' W hi hj h
    have hi : i < 16 := hi
    obtain rfl | rfl | rfl | rfl | rfl | rfl | rfl | rfl | rfl | rfl | rfl | rfl | rfl | rfl | rfl | rfl : i = 0 ∨ i = 1 ∨ i = 2 ∨ i = 3 ∨ i = 4 ∨ i = 5 ∨ i = 6 ∨ i = 7 ∨ i = 8 ∨ i = 9 ∨ i = 10 ∨ i = 11 ∨ i = 12 ∨ i = 13 ∨ i = 14 ∨ i = 15 := by omega
    all_goals exact h
  case st =>
    intro i j d W W' hi hj hij hsp hr h hF
    have hi : i < 15 := hi
    have hj : j < 16 := hj
    unfold rpcC_bare1F at hF
    by_cases hs : i = 10 ∨ i = 12 ∨ i = 14
    · rw [if_pos hs] at hF
      by_cases hjs : j = 10 ∨ j = 12 ∨ j = 14 ∨ j = 15
      · exfalso
        rcases hs with rfl | rfl | rfl <;> rcases hjs with rfl | rfl | rfl | rfl
        all_goals first
          | exact hij rfl
          | (simp at hsp; done)
          | exact absurd (show reach _ 2 _ _ = true by kernel_rfl) (by rw [hr]; decide)
      · obtain rfl | rfl | rfl | rfl | rfl | rfl | rfl | rfl | rfl | rfl | rfl | rfl : j = 0 ∨ j = 1 ∨ j = 2 ∨ j = 3 ∨ j = 4 ∨ j = 5 ∨ j = 6 ∨ j = 7 ∨ j = 8 ∨ j = 9 ∨ j = 11 ∨ j = 13 := by omega
        all_goals trivial
    · rw [if_neg hs] at hF
      by_cases hjs : j = 10 ∨ j = 12 ∨ j = 14 ∨ j = 15
      · rcases hjs with rfl | rfl | rfl | rfl
        all_goals exact ⟨Blk.kp h.1 hF (fun f => f), Kp.trans' h.2 hF (fun _ f _ => f.elim)⟩
      · obtain rfl | rfl | rfl | rfl | rfl | rfl | rfl | rfl | rfl | rfl | rfl | rfl : j = 0 ∨ j = 1 ∨ j = 2 ∨ j = 3 ∨ j = 4 ∨ j = 5 ∨ j = 6 ∨ j = 7 ∨ j = 8 ∨ j = 9 ∨ j = 11 ∨ j = 13 := by omega
        all_goals trivial
  case t0 =>
    intro j d hj
    obtain rfl : j = 0 := by omega
    exact ⟨Blk.drew HB.out, Kp.drew (Kp.refl _ _)⟩
  case op =>
    intro i o ho u W hdep hV _ _ K hK
    simp only [over, List.foldl_cons, List.foldl_nil, List.setIfInBounds_toArray, List.set_cons_zero, List.set_cons_succ, List.set_nil, List.getD_cons_zero, List.getD_cons_succ, Array.getD_eq_getD_getElem?, List.getElem?_toArray] at hK hdep hV ⊢
    match i, ho with
    | 0, ho =>
      simp only [List.getElem?_toArray, List.getElem?_cons_zero, List.getElem?_cons_succ, Option.some.injEq] at ho
      subst ho
      go_wp2
      exact hK _ _ rfl trivial (Kp.refl _ _)
    | 1, ho =>
      simp only [List.getElem?_toArray, List.getElem?_cons_zero, List.getElem?_cons_succ, Option.some.injEq] at ho
      subst ho
      have v0 : u 5 = .pointer (some ⟨q, 0, none⟩) := hV 0 (by kernel_rfl)
      obtain ⟨hb, hk⟩ := hdep 15 (by simp)
      have hc := Blk.cell hb 0
      simp only [List.getElem?_toArray, List.getElem?_cons_zero, List.getElem?_cons_succ] at hc
      simp only [v0] at hK ⊢
      go_wp2
      exact hK _ _ rfl trivial (Kp.refl _ _)
    | 2, ho =>
      simp only [List.getElem?_toArray, List.getElem?_cons_zero, List.getElem?_cons_succ, Option.some.injEq] at ho
      subst ho
      have v1 : u 6 = .string x.name := hV 1 (by kernel_rfl)
      simp only [v1] at hK ⊢
      go_wp2_with fail
      refine (cloneQ_any _ _ hname).mono ?_
      rintro e w2 ⟨rfl, hk2⟩
      exact hK _ _ rfl trivial hk2
    | 3, ho =>
      simp only [List.getElem?_toArray, List.getElem?_cons_zero, List.getElem?_cons_succ, Option.some.injEq] at ho
      subst ho
      go_wp2
      exact hK _ _ rfl trivial (Kp.refl _ _)
    | 4, ho =>
      simp only [List.getElem?_toArray, List.getElem?_cons_zero, List.getElem?_cons_succ, Option.some.injEq] at ho
      subst ho
      have v3 : u 8 = .pointer (some ⟨q, 1, none⟩) := hV 3 (by kernel_rfl)
      obtain ⟨hb, hk⟩ := hdep 15 (by simp)
      have hc := Blk.cell hb 1
      simp only [List.getElem?_toArray, List.getElem?_cons_zero, List.getElem?_cons_succ] at hc
      simp only [v3] at hK ⊢
      go_wp2
      exact hK _ _ rfl trivial (Kp.refl _ _)
    | 5, ho =>
      simp only [List.getElem?_toArray, List.getElem?_cons_zero, List.getElem?_cons_succ, Option.some.injEq] at ho
      subst ho
      have v4 : u 9 = .string x.inn := hV 4 (by kernel_rfl)
      simp only [v4] at hK ⊢
      go_wp2_with fail
      refine (cloneQ_any _ _ hinn).mono ?_
      rintro e w2 ⟨rfl, hk2⟩
      exact hK _ _ rfl trivial hk2
    | 6, ho =>
      simp only [List.getElem?_toArray, List.getElem?_cons_zero, List.getElem?_cons_succ, Option.some.injEq] at ho
      subst ho
      go_wp2
      exact hK _ _ rfl trivial (Kp.refl _ _)
    | 7, ho =>
      simp only [List.getElem?_toArray, List.getElem?_cons_zero, List.getElem?_cons_succ, Option.some.injEq] at ho
      subst ho
      have v6 : u 11 = .pointer (some ⟨q, 2, none⟩) := hV 6 (by kernel_rfl)
      obtain ⟨hb, hk⟩ := hdep 15 (by simp)
      have hc := Blk.cell hb 2
      simp only [List.getElem?_toArray, List.getElem?_cons_zero, List.getElem?_cons_succ] at hc
      simp only [v6] at hK ⊢
      go_wp2
      exact hK _ _ rfl trivial (Kp.refl _ _)
    | 8, ho =>
      simp only [List.getElem?_toArray, List.getElem?_cons_zero, List.getElem?_cons_succ, Option.some.injEq] at ho
      subst ho
      have v7 : u 12 = .string x.out := hV 7 (by kernel_rfl)
      simp only [v7] at hK ⊢
      go_wp2_with fail
      refine (cloneQ_any _ _ hout).mono ?_
      rintro e w2 ⟨rfl, hk2⟩
      exact hK _ _ rfl trivial hk2
    | 9, ho =>
      simp only [List.getElem?_toArray, List.getElem?_cons_zero, List.getElem?_cons_succ, Option.some.injEq] at ho
      subst ho
      go_wp2
      exact hK _ _ rfl trivial (Kp.refl _ _)
    | 10, ho =>
      simp only [List.getElem?_toArray, List.getElem?_cons_zero, List.getElem?_cons_succ, Option.some.injEq] at ho
      subst ho
      have v9 : u 14 = .pointer (some ⟨q, 0, none⟩) := hV 9 (by kernel_rfl)
      have v2 : u 7 = .string x.name := hV 2 (by kernel_rfl)
      obtain ⟨hb, hk⟩ := hdep 15 (by simp)
      have hc := Blk.cell hb 0
      have hf := Blk.frozen hb 0
      simp only [List.getElem?_toArray, List.getElem?_cons_zero, List.getElem?_cons_succ] at hc
      simp only [v9, v2] at hK ⊢
      go_wp2
      exact hK undef _ trivial ⟨Blk.set_ hb 0 _, Kp.setCell hk (fun _ => rfl) _⟩ (Kp.setCell (S := fun k => k = q) (Kp.refl _ W) (fun _ => rfl) _)
    | 11, ho =>
      simp only [List.getElem?_toArray, List.getElem?_cons_zero, List.getElem?_cons_succ, Option.some.injEq] at ho
      subst ho
      go_wp2
      exact hK _ _ rfl trivial (Kp.refl _ _)
    | 12, ho =>
      simp only [List.getElem?_toArray, List.getElem?_cons_zero, List.getElem?_cons_succ, Option.some.injEq] at ho
      subst ho
      have v11 : u 15 = .pointer (some ⟨q, 1, none⟩) := hV 11 (by kernel_rfl)
      have v5 : u 10 = .string x.inn := hV 5 (by kernel_rfl)
      obtain ⟨hb, hk⟩ := hdep 10 (by simp)
      have hc := Blk.cell hb 1
      have hf := Blk.frozen hb 1
      simp only [List.getElem?_toArray, List.getElem?_cons_zero, List.getElem?_cons_succ] at hc
      simp only [v11, v5] at hK ⊢
      go_wp2
      exact hK undef _ trivial ⟨Blk.set_ hb 1 _, Kp.setCell hk (fun _ => rfl) _⟩ (Kp.setCell (S := fun k => k = q) (Kp.refl _ W) (fun _ => rfl) _)
    | 13, ho =>
      simp only [List.getElem?_toArray, List.getElem?_cons_zero, List.getElem?_cons_succ, Option.some.injEq] at ho
      subst ho
      go_wp2
      exact hK _ _ rfl trivial (Kp.refl _ _)
    | 14, ho =>
      simp only [List.getElem?_toArray, List.getElem?_cons_zero, List.getElem?_cons_succ, Option.some.injEq] at ho
      subst ho
      have v13 : u 16 = .pointer (some ⟨q, 2, none⟩) := hV 13 (by kernel_rfl)
      have v8 : u 13 = .string x.out := hV 8 (by kernel_rfl)
      obtain ⟨hb, hk⟩ := hdep 12 (by simp)
      have hc := Blk.cell hb 2
      have hf := Blk.frozen hb 2
      simp only [List.getElem?_toArray, List.getElem?_cons_zero, List.getElem?_cons_succ] at hc
      simp only [v13, v8] at hK ⊢
      go_wp2
      exact hK undef _ trivial ⟨Blk.set_ hb 2 _, Kp.setCell hk (fun _ => rfl) _⟩ (Kp.setCell (S := fun k => k = q) (Kp.refl _ W) (fun _ => rfl) _)
    | k + 15, ho => simp at ho
  case skip =>
    intro i o g b ho hg
    rw [no_guard (by kernel_rfl) ho] at hg
    cases hg
  case done =>
    intro u W1 hV hP
    obtain ⟨hb1, hk1⟩ := hP 14 (by decide) (by decide)
    clear hV hP
    have HK1_ := Lib.hid (Kp.trans' HK0.out hk1 (fun i e hi => by have := HQ.out; omega))
    have HR1 := Lib.hid (HR.out.kp hk1 (by omega))
    clear HB hk1
    have HB := Lib.hid hb1
    clear hb1
    simp only [over, List.foldl_cons, List.foldl_nil, List.setIfInBounds_toArray, List.set_cons_zero, List.set_cons_succ, List.set_nil, List.getD_cons_zero, List.getD_cons_succ, Array.getD_eq_getD_getElem?, List.getElem?_toArray]
    go_wp2_with fail
    refine wp_region_flow (by kernel_rfl) 33 1 2 (fun i => match i with | 2 => [18] | 6 => [18] | 10 => [18] | 13 => [18] | 15 => [13] | 17 => [15] | _ => []) (fun _ => []) (fun i => match i with | 13 => [18] | 15 => [18, 13] | 17 => [18, 13, 15] | _ => []) (fun i => ([17, 18, 19, 20, 21, 22, 23, 24, 25, 26, 27, 28, 29, 46, 30, 48, 31, 50, 51] : List Nat).getD i 0) (by kernel_rfl) rfl [17, 18, 19, 20, 21, 22, 23, 24, 25, 26, 27, 28, 29, 46, 30, 48, 31, 50, 51] (by kernel_rfl)
      (rpcC_bare2F q) (rpcC_bare2V x q) (rpcC_bare2P x q W1) ?cong ?st ?t0 ?op ?skip ?done
    case cong =>
      intro i d d' W hi hj h
      have hi : i < 19 := hi
      obtain rfl | rfl | rfl | rfl | rfl | rfl | rfl | rfl | rfl | rfl | rfl | rfl | rfl | rfl | rfl | rfl | rfl | rfl | rfl : i = 0 ∨ i = 1 ∨ i = 2 ∨ i = 3 ∨ i = 4 ∨ i = 5 ∨ i = 6 ∨ i = 7 ∨ i = 8 ∨ i = 9 ∨ i = 10 ∨ i = 11 ∨ i = 12 ∨ i = 13 ∨ i = 14 ∨ i = 15 ∨ i = 16 ∨ i = 17 ∨ i = 18 := by omega
      all_goals exact h
    case st =>
      intro i j d W W' hi hj hij hsp hr h hF
      have hi : i < 18 := hi
      have hj : j < 19 := hj
      unfold rpcC_bare2F at hF
      by_cases hs : i = 13 ∨ i = 15 ∨ i = 17
      · rw [if_pos hs] at hF
        by_cases hjs : j = 13 ∨ j = 15 ∨ j = 17 ∨ j = 18
        · exfalso
          rcases hs with rfl | rfl | rfl <;> rcases hjs with rfl | rfl | rfl | rfl
          all_goals first
            | exact hij rfl
            | (simp at hsp; done)
            | exact absurd (show reach _ 2 _ _ = true by kernel_rfl) (by rw [hr]; decide)
        · obtain rfl | rfl | rfl | rfl | rfl | rfl | rfl | rfl | rfl | rfl | rfl | rfl | rfl | rfl | rfl : j = 0 ∨ j = 1 ∨ j = 2 ∨ j = 3 ∨ j = 4 ∨ j = 5 ∨ j = 6 ∨ j = 7 ∨ j = 8 ∨ j = 9 ∨ j = 10 ∨ j = 11 ∨ j = 12 ∨ j = 14 ∨ j = 16 := by omega
          all_goals trivial
      · rw [if_neg hs] at hF
        by_cases hjs : j = 13 ∨ j = 15 ∨ j = 17 ∨ j = 18
        · rcases hjs with rfl | rfl | rfl | rfl
          all_goals exact ⟨Blk.kp h.1 hF (fun f => f), Kp.trans' h.2 hF (fun _ f _ => f.elim)⟩
        · obtain rfl | rfl | rfl | rfl | rfl | rfl | rfl | rfl | rfl | rfl | rfl | rfl | rfl | rfl | rfl : j = 0 ∨ j = 1 ∨ j = 2 ∨ j = 3 ∨ j = 4 ∨ j = 5 ∨ j = 6 ∨ j = 7 ∨ j = 8 ∨ j = 9 ∨ j = 10 ∨ j = 11 ∨ j = 12 ∨ j = 14 ∨ j = 16 := by omega
          all_goals trivial
    case t0 =>
      intro j d hj
      obtain rfl : j = 0 := by omega
      exact ⟨Blk.drew HB.out, Kp.drew (Kp.refl _ _)⟩
    case op =>
      intro i o ho u W hdep hV _ _ K hK
      simp only [over, List.foldl_cons, List.foldl_nil, List.setIfInBounds_toArray, List.set_cons_zero, List.set_cons_succ, List.set_nil, List.getD_cons_zero, List.getD_cons_succ, Array.getD_eq_getD_getElem?, List.getElem?_toArray] at hK hdep hV ⊢
      match i, ho with
      | 0, ho =>
        simp only [List.getElem?_toArray, List.getElem?_cons_zero, List.getElem?_cons_succ, Option.some.injEq] at ho
        subst ho
        go_wp2
        exact hK _ _ rfl trivial (Kp.refl _ _)
      | 1, ho =>
        simp only [List.getElem?_toArray, List.getElem?_cons_zero, List.getElem?_cons_succ, Option.some.injEq] at ho
        subst ho
        go_wp2
        exact hK _ _ rfl trivial (Kp.refl _ _)
      | 2, ho =>
        simp only [List.getElem?_toArray, List.getElem?_cons_zero, List.getElem?_cons_succ, Option.some.injEq] at ho
        subst ho
        have v1 : u 18 = .pointer (some ⟨q, 3, none⟩) := hV 1 (by kernel_rfl)
        obtain ⟨hb, hk⟩ := hdep 18 (by simp)
        have hc := Blk.cell hb 3
        simp only [List.getElem?_toArray, List.getElem?_cons_zero, List.getElem?_cons_succ] at hc
        simp only [v1] at hK ⊢
        go_wp2
        exact hK _ _ rfl trivial (Kp.refl _ _)
      | 3, ho =>
        simp only [List.getElem?_toArray, List.getElem?_cons_zero, List.getElem?_cons_succ, Option.some.injEq] at ho
        subst ho
        have v0 : u 17 = .func (.func 49) #[] #[] := hV 0 (by kernel_rfl)
        have v2 : u 19 = .int .i64 x.at_ := hV 2 (by kernel_rfl)
        simp only [v0, v2] at hK ⊢
        go_wp2_with fail
        refine (place_bare _ _).mono ?_
        rintro e w2 ⟨rfl, hk2⟩
        exact hK _ _ rfl trivial hk2
      | 4, ho =>
        simp only [List.getElem?_toArray, List.getElem?_cons_zero, List.getElem?_cons_succ, Option.some.injEq] at ho
        subst ho
        go_wp2
        exact hK _ _ rfl trivial (Kp.refl _ _)
      | 5, ho =>
        simp only [List.getElem?_toArray, List.getElem?_cons_zero, List.getElem?_cons_succ, Option.some.injEq] at ho
        subst ho
        go_wp2
        exact hK _ _ rfl trivial (Kp.refl _ _)
      | 6, ho =>
        simp only [List.getElem?_toArray, List.getElem?_cons_zero, List.getElem?_cons_succ, Option.some.injEq] at ho
        subst ho
        have v5 : u 22 = .pointer (some ⟨q, 4, none⟩) := hV 5 (by kernel_rfl)
        obtain ⟨hb, hk⟩ := hdep 18 (by simp)
        have hc := Blk.cell hb 4
        simp only [List.getElem?_toArray, List.getElem?_cons_zero, List.getElem?_cons_succ] at hc
        simp only [v5] at hK ⊢
        go_wp2
        exact hK _ _ rfl trivial (Kp.refl _ _)
      | 7, ho =>
        simp only [List.getElem?_toArray, List.getElem?_cons_zero, List.getElem?_cons_succ, Option.some.injEq] at ho
        subst ho
        have v4 : u 21 = .func (.func 49) #[] #[] := hV 4 (by kernel_rfl)
        have v6 : u 23 = .int .i64 x.iat := hV 6 (by kernel_rfl)
        simp only [v4, v6] at hK ⊢
        go_wp2_with fail
        refine (place_bare _ _).mono ?_
        rintro e w2 ⟨rfl, hk2⟩
        exact hK _ _ rfl trivial hk2
      | 8, ho =>
        simp only [List.getElem?_toArray, List.getElem?_cons_zero, List.getElem?_cons_succ, Option.some.injEq] at ho
        subst ho
        go_wp2
        exact hK _ _ rfl trivial (Kp.refl _ _)
      | 9, ho =>
        simp only [List.getElem?_toArray, List.getElem?_cons_zero, List.getElem?_cons_succ, Option.some.injEq] at ho
        subst ho
        go_wp2
        exact hK _ _ rfl trivial (Kp.refl _ _)
      | 10, ho =>
        simp only [List.getElem?_toArray, List.getElem?_cons_zero, List.getElem?_cons_succ, Option.some.injEq] at ho
        subst ho
        have v9 : u 26 = .pointer (some ⟨q, 5, none⟩) := hV 9 (by kernel_rfl)
        obtain ⟨hb, hk⟩ := hdep 18 (by simp)
        have hc := Blk.cell hb 5
        simp only [List.getElem?_toArray, List.getElem?_cons_zero, List.getElem?_cons_succ] at hc
        simp only [v9] at hK ⊢
        go_wp2
        exact hK _ _ rfl trivial (Kp.refl _ _)
      | 11, ho =>
        simp only [List.getElem?_toArray, List.getElem?_cons_zero, List.getElem?_cons_succ, Option.some.injEq] at ho
        subst ho
        have v8 : u 25 = .func (.func 49) #[] #[] := hV 8 (by kernel_rfl)
        have v10 : u 27 = .int .i64 x.oat := hV 10 (by kernel_rfl)
        simp only [v8, v10] at hK ⊢
        go_wp2_with fail
        refine (place_bare _ _).mono ?_
        rintro e w2 ⟨rfl, hk2⟩
        exact hK _ _ rfl trivial hk2
      | 12, ho =>
        simp only [List.getElem?_toArray, List.getElem?_cons_zero, List.getElem?_cons_succ, Option.some.injEq] at ho
        subst ho
        go_wp2
        exact hK _ _ rfl trivial (Kp.refl _ _)
      | 13, ho =>
        simp only [List.getElem?_toArray, List.getElem?_cons_zero, List.getElem?_cons_succ, Option.some.injEq] at ho
        subst ho
        have v12 : u 29 = .pointer (some ⟨q, 3, none⟩) := hV 12 (by kernel_rfl)
        have v3 : u 20 = .int .i64 (0) := hV 3 (by kernel_rfl)
        obtain ⟨hb, hk⟩ := hdep 18 (by simp)
        have hc := Blk.cell hb 3
        have hf := Blk.frozen hb 3
        simp only [List.getElem?_toArray, List.getElem?_cons_zero, List.getElem?_cons_succ] at hc
        simp only [v12, v3] at hK ⊢
        go_wp2
        exact hK undef _ trivial ⟨Blk.set_ hb 3 _, Kp.setCell hk (fun _ => rfl) _⟩ (Kp.setCell (S := fun k => k = q) (Kp.refl _ W) (fun _ => rfl) _)
      | 14, ho =>
        simp only [List.getElem?_toArray, List.getElem?_cons_zero, List.getElem?_cons_succ, Option.some.injEq] at ho
        subst ho
        go_wp2
        exact hK _ _ rfl trivial (Kp.refl _ _)
      | 15, ho =>
        simp only [List.getElem?_toArray, List.getElem?_cons_zero, List.getElem?_cons_succ, Option.some.injEq] at ho
        subst ho
        have v14 : u 30 = .pointer (some ⟨q, 4, none⟩) := hV 14 (by kernel_rfl)
        have v7 : u 24 = .int .i64 (0) := hV 7 (by kernel_rfl)
        obtain ⟨hb, hk⟩ := hdep 13 (by simp)
        have hc := Blk.cell hb 4
        have hf := Blk.frozen hb 4
        simp only [List.getElem?_toArray, List.getElem?_cons_zero, List.getElem?_cons_succ] at hc
        simp only [v14, v7] at hK ⊢
        go_wp2
        exact hK undef _ trivial ⟨Blk.set_ hb 4 _, Kp.setCell hk (fun _ => rfl) _⟩ (Kp.setCell (S := fun k => k = q) (Kp.refl _ W) (fun _ => rfl) _)
      | 16, ho =>
        simp only [List.getElem?_toArray, List.getElem?_cons_zero, List.getElem?_cons_succ, Option.some.injEq] at ho
        subst ho
        go_wp2
        exact hK _ _ rfl trivial (Kp.refl _ _)
      | 17, ho =>
        simp only [List.getElem?_toArray, List.getElem?_cons_zero, List.getElem?_cons_succ, Option.some.injEq] at ho
        subst ho
        have v16 : u 31 = .pointer (some ⟨q, 5, none⟩) := hV 16 (by kernel_rfl)
        have v11 : u 28 = .int .i64 (0) := hV 11 (by kernel_rfl)
        obtain ⟨hb, hk⟩ := hdep 15 (by simp)
        have hc := Blk.cell hb 5
        have hf := Blk.frozen hb 5
        simp only [List.getElem?_toArray, List.getElem?_cons_zero, List.getElem?_cons_succ] at hc
        simp only [v16, v11] at hK ⊢
        go_wp2
        exact hK undef _ trivial ⟨Blk.set_ hb 5 _, Kp.setCell hk (fun _ => rfl) _⟩ (Kp.setCell (S := fun k => k = q) (Kp.refl _ W) (fun _ => rfl) _)
      | k + 18, ho => simp at ho
    case skip =>
      intro i o g b ho hg
      rw [no_guard (by kernel_rfl) ho] at hg
      cases hg
    case done =>
      intro u W2 hV hP
      obtain ⟨hb2, hk2⟩ := hP 17 (by decide) (by decide)
      clear hV hP
      have HK2_ := Lib.hid (Kp.trans' HK1_.out hk2 (fun i e hi => by have := HQ.out; omega))
      have HR2 := Lib.hid (HR1.out.kp hk2 (by omega))
      clear HB hk2
      have HB := Lib.hid hb2
      clear hb2
      simp only [over, List.foldl_cons, List.foldl_nil, List.setIfInBounds_toArray, List.set_cons_zero, List.set_cons_succ, List.set_nil, List.getD_cons_zero, List.getD_cons_succ, Array.getD_eq_getD_getElem?, List.getElem?_toArray]
      have bc := HB.out.cell
      have b0 := bc 0
      have b1 := bc 1
      have b2 := bc 2
      have b3 := bc 3
      have b4 := bc 4
      have b5 := bc 5
      have rc := HR2.out.cell
      have r0 := rc 0
      have r1 := rc 1
      have r2 := rc 2
      have r3 := rc 3
      have r4 := rc 4
      have r5 := rc 5
      have rf := HR2.out.frozen
      have z0 := rf 0
      have z1 := rf 1
      have z2 := rf 2
      have z3 := rf 3
      have z4 := rf 4
      have z5 := rf 5
      simp only [List.getElem?_toArray, List.getElem?_cons_zero, List.getElem?_cons_succ] at b0 r0 b1 r1 b2 r2 b3 r3 b4 r4 b5 r5
      clear bc rc rf
      go_wp2_with fail
      have HF := ((((((HR2.out.set_ 0 (.string x.name)).set_ 1 (.string x.inn)).set_ 2 (.string x.out)).set_ 3 (.int .i64 (0))).set_ 4 (.int .i64 (0))).set_ 5 (.int .i64 (0)))
      have f0 := HF.cell 0
      have f1 := HF.cell 1
      have f2 := HF.cell 2
      have f3 := HF.cell 3
      have f4 := HF.cell 4
      have f5 := HF.cell 5
      simp only [List.setIfInBounds_toArray, List.set_cons_zero, List.set_cons_succ, List.getElem?_toArray, List.getElem?_cons_zero, List.getElem?_cons_succ] at f0 f1 f2 f3 f4 f5
      refine bodyPost_ret (v := .agg #[.string x.name, .string x.inn, .string x.out, .int .i64 (0), .int .i64 (0), .int .i64 (0)]) (by simp [results, Tryz.results134, go_sem, f0, f1, f2, f3, f4, f5]) rfl ⟨rfl, (Kp.setCell (Kp.setCell (Kp.setCell (Kp.setCell (Kp.setCell (Kp.setCell HK2_.out (p := ⟨q + 1, 0, none⟩) (fun h => by have h2 : q + 1 < w.heap.size := h; have := HQ.out; omega) _) (p := ⟨q + 1, 1, none⟩) (fun h => by have h2 : q + 1 < w.heap.size := h; have := HQ.out; omega) _) (p := ⟨q + 1, 2, none⟩) (fun h => by have h2 : q + 1 < w.heap.size := h; have := HQ.out; omega) _) (p := ⟨q + 1, 3, none⟩) (fun h => by have h2 : q + 1 < w.heap.size := h; have := HQ.out; omega) _) (p := ⟨q + 1, 4, none⟩) (fun h => by have h2 : q + 1 < w.heap.size := h; have := HQ.out; omega) _) (p := ⟨q + 1, 5, none⟩) (fun h => by have h2 : q + 1 < w.heap.size := h; have := HQ.out; omega) _)⟩
end Go.Proofs.YthmdaejlopjjoaaGreatDoor
