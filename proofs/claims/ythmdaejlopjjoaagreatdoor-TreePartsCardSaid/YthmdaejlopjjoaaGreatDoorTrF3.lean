/-
  tree: a message of a file.
-/
import Derived.Test.YthmdaejlopjjoaaGreatDoorMsD
namespace Go.Proofs.YthmdaejlopjjoaaGreatDoor
open Go.RowKit
set_option linter.unusedVariables false
set_option linter.unusedSimpArgs false

/-- What is known of the operations' values, of the append of a file's message. -/
def fmV (b be B n0 : Nat) (A1 : Option Addr) (c1 : Nat) : Nat → Value → Prop
  | 0, v => v = .pointer (some ⟨be, 0, none⟩)
  | 1, v => v = .pointer (some ⟨be, 0, none⟩)
  | 2, v => v = .pointer (some ⟨be, 1, none⟩)
  | 3, v => v = .pointer (some ⟨be, 3, none⟩)
  | 4, v => v = .slice A1 n0 c1
  | 5, v => v = .pointer (some ⟨be, 0, none⟩)
  | 6, v => v = .pointer (some ⟨be, 0, none⟩)
  | 7, v => v = .pointer (some ⟨be, 0, none⟩)
  | 8, v => v = .pointer (some ⟨b, 0, none⟩)
  | 9, v => ∃ vs : Array Value, v = .agg vs ∧ vs.size = 8 ∧ vs.all (·.oneCell') = true
  | 10, v => v = .int .i64 n0
  | 11, v => ∃ q, v = .slice (some ⟨q, 0, none⟩) 1 1
  | 12, v => ∃ g2 c2, v = .slice (some ⟨g2, 0, none⟩) (n0 + 1) c2 ∧ B ≤ g2
  | 15, v => v = .pointer (some ⟨be, 0, none⟩)
  | 16, v => v = .pointer (some ⟨be, 1, none⟩)
  | 17, v => v = .pointer (some ⟨be, 3, none⟩)
  | _, _ => True
/-- What is known of memory. -/
def fmP (b g : Nat) (cur : Array Value) (be B S0 n0 : Nat) (w0 : World) (A1 : Option Addr) (c1 : Nat) (x : Tr) (V : FV) (C : List Nat) (l : List Wd) (sub : Pz Ms) (rs : List Rw) : Nat → (Nat → Value) → World → Prop
  | 9, d, W => ∃ y l' vs F, sub = .ok y l' ∧ d 9 = .agg vs ∧ MemL W S0 (Ms.dv Ty0 y) vs.toList F ∧ Ps W b g cur l' ∧ Kd b be B w0 W
  | 11, d, W => ∃ q, d 11 = .slice (some ⟨q, 0, none⟩) 1 1 ∧ Blk W q 49 zMsC ∧ S0 ≤ q
  | 12, d, W => ∃ y l' vs F dz, sub = .ok y l' ∧ d 9 = .agg vs ∧ MemL W S0 (Ms.dv Ty0 y) vs.toList F ∧ Ps W b g cur l' ∧ Kd b be B w0 W ∧
      Rows_ W B (rs.set 1 ⟨49, 8, n0 + 1, x.msgs.flatMap (Ms.dv Ty0) ++ dz, d 12⟩) C ∧ dz.length = 8 ∧ (∀ i ∈ F, i ∉ owns (rs.set 1 ⟨49, 8, n0 + 1, x.msgs.flatMap (Ms.dv Ty0) ++ dz, d 12⟩)) ∧ S0 ≤ W.heap.size
  | 13, d, W => ∃ g2 c2, d 12 = .slice (some ⟨g2, 0, none⟩) (n0 + 1) c2 ∧ d 13 = .pointer (some ⟨g2, n0 * 8, none⟩)
  | 14, d, W => ∃ y l' F, sub = .ok y l' ∧ Rows_ W B (rs.set 1 ⟨49, 8, n0 + 1, x.msgs.flatMap (Ms.dv Ty0) ++ Ms.dv Ty0 y, d 12⟩) (C ++ F) ∧ Ps W b g cur l' ∧ Kd b be B w0 W ∧ S0 ≤ W.heap.size
  | 18, d, W => Blk W be 154 #[.pointer (some ⟨b, 0, none⟩), .string x.pkg, V.i, d 12, V.e, V.s]
  | 19, d, W => Blk W be 154 #[.pointer (some ⟨b, 0, none⟩), .string x.pkg, V.i, .slice A1 n0 c1, V.e, V.s]
  | 20, d, W => Ps W b g cur l ∧ Kd b be B w0 W
  | 21, d, W => Rows_ W B rs C ∧ S0 ≤ W.heap.size
  | _, _, _ => True
def fmF (b be B : Nat) (i : Nat) (W W' : World) : Prop :=
  if i = 9 then Kb b W W'
  else if i = 11 then ∃ o, W' = W.alloc o
  else if i = 12 then ∃ row, W.grownBy W' row ∧ ∀ k, row = some k → B ≤ k
  else if i = 14 then ∃ g2, W.grownBy W' (some g2) ∧ B ≤ g2
  else if i = 18 then ∃ u, W' = W.setCell ⟨be, 3, none⟩ u
  else W' = W
section
variable {b g be B S0 n0 : Nat} {cur : Array Value} {w0 W W' : World} {A1 : Option Addr} {c1 : Nat} {x : Tr} {V : FV} {C : List Nat} {l : List Wd} {sub : Pz Ms} {rs : List Rw} {d : Nat → Value}
theorem fmP_cong {i : Nat} {d' : Nat → Value} (hi : i < 22) (hc : i = 9 ∨ i = 12 → d 9 = d' 9) (hz : i = 11 → d 11 = d' 11) (ha : i = 12 ∨ i = 13 ∨ i = 14 ∨ i = 18 → d 12 = d' 12) (hx : i = 13 → d 13 = d' 13)
    (h : fmP b g cur be B S0 n0 w0 A1 c1 x V C l sub rs i d W) : fmP b g cur be B S0 n0 w0 A1 c1 x V C l sub rs i d' W := by
  obtain rfl | rfl | rfl | rfl | rfl | rfl | rfl | rfl | rfl | rfl | rfl | rfl | rfl | rfl | rfl | rfl | rfl | rfl | rfl | rfl | rfl | rfl : i = 0 ∨ i = 1 ∨ i = 2 ∨ i = 3 ∨ i = 4 ∨ i = 5 ∨ i = 6 ∨ i = 7 ∨ i = 8 ∨ i = 9 ∨ i = 10 ∨ i = 11 ∨ i = 12 ∨ i = 13 ∨ i = 14 ∨ i = 15 ∨ i = 16 ∨ i = 17 ∨ i = 18 ∨ i = 19 ∨ i = 20 ∨ i = 21 := by omega
  all_goals first
    | trivial
    | exact h
    | (simp only [fmP] at h ⊢; rw [← hc (by decide)]; exact h)
    | (simp only [fmP] at h ⊢; rw [← hz (by decide)]; exact h)
    | (simp only [fmP] at h ⊢; rw [← ha (by decide)]; exact h)
    | (simp only [fmP] at h ⊢; rw [← ha (by decide), ← hx (by decide)]; exact h)
    | (simp only [fmP] at h ⊢; rw [← hc (by decide), ← ha (by decide)]; exact h)
/-- The frames of the five operations that turn memory. -/
theorem fmP_st (hbB : b < B) (hgB : g < B) (hbe : b < be) (hge : g < be) (hbeB : be < B) (hS : B ≤ S0) {i j : Nat} (hj : j < 22) (hij : i ≠ j)
    (hr : (i = 9 ∨ i = 11 → j ≠ 12 ∧ j ≠ 13 ∧ j ≠ 14 ∧ j ≠ 18) ∧ (i = 12 → j ≠ 13 ∧ j ≠ 14 ∧ j ≠ 18))
    (hsp : (i = 9 → j ≠ 20) ∧ (i = 12 ∨ i = 14 ∨ i = 18 → j ≠ 9 ∧ j ≠ 11 ∧ j ≠ 20 ∧ j ≠ 21) ∧ (i = 14 → j ≠ 12) ∧ (i = 18 → j ≠ 19))
    (h : fmP b g cur be B S0 n0 w0 A1 c1 x V C l sub rs j d W) (hF : fmF b be B i W W') : fmP b g cur be B S0 n0 w0 A1 c1 x V C l sub rs j d W' := by
  have hlow : ∀ {T : Nat → Prop}, (∀ k, T k → B ≤ k) → Kp T W W' → j = 13 ∨ j = 18 ∨ j = 19 → fmP b g cur be B S0 n0 w0 A1 c1 x V C l sub rs j d W' := by
    intro T hT hk hj'
    rcases hj' with rfl | rfl | rfl
    · exact h
    · exact Blk.kp h hk (fun e => by have := hT be e; omega)
    · exact Blk.kp h hk (fun e => by have := hT be e; omega)
  by_cases h0 : j ≠ 9 ∧ j ≠ 11 ∧ j ≠ 12 ∧ j ≠ 13 ∧ j ≠ 14 ∧ j ≠ 18 ∧ j ≠ 19 ∧ j ≠ 20 ∧ j ≠ 21
  · obtain rfl | rfl | rfl | rfl | rfl | rfl | rfl | rfl | rfl | rfl | rfl | rfl | rfl : j = 0 ∨ j = 1 ∨ j = 2 ∨ j = 3 ∨ j = 4 ∨ j = 5 ∨ j = 6 ∨ j = 7 ∨ j = 8 ∨ j = 10 ∨ j = 15 ∨ j = 16 ∨ j = 17 := by omega
    all_goals trivial
  unfold fmF at hF
  by_cases ic : i = 9
  · rw [if_pos ic] at hF
    obtain rfl | rfl | rfl : j = 11 ∨ j = 19 ∨ j = 21 := by have := hr.1 (.inl ic); have := hsp.1 ic; omega
    · obtain ⟨q, h1, h2, h3⟩ := h
      exact ⟨q, h1, h2.kp hF (by omega), h3⟩
    · exact Blk.kp h hF (by omega)
    · exact ⟨h.1.kp hF (fun q e => by omega), Nat.le_trans h.2 hF.size⟩
  rw [if_neg ic] at hF
  by_cases iz : i = 11
  · rw [if_pos iz] at hF
    obtain ⟨o, rfl⟩ := hF
    obtain rfl | rfl | rfl | rfl : j = 9 ∨ j = 19 ∨ j = 20 ∨ j = 21 := by have := hr.1 (.inr iz); omega
    · obtain ⟨y, l', vs, F, h1, h2, h3, h4, h5⟩ := h
      exact ⟨y, l', vs, F, h1, h2, h3.stays fun q hq => Below.heap_alloc _ _ q (h3.lt q hq).2, h4.alloc _, h5.alloc _⟩
    · exact Blk.alloc h _
    · exact ⟨h.1.alloc _, h.2.alloc _⟩
    · exact ⟨h.1.alloc _, Nat.le_trans h.2 (by simp)⟩
  rw [if_neg iz] at hF
  by_cases ia : i = 12
  · rw [if_pos ia] at hF
    obtain ⟨row, hg, hB⟩ := hF
    exact hlow (T := fun k => some k = row) (fun k e => hB k e.symm) (Kp.of_grown hg) (by have := hr.2 ia; have := hsp.2.1 (.inl ia); omega)
  rw [if_neg ia] at hF
  by_cases is : i = 14
  · rw [if_pos is] at hF
    obtain ⟨g2, hg, hB⟩ := hF
    exact hlow (T := fun k => some k = some g2) (fun k e => by injection e with e; omega) (Kp.of_grown hg) (by have := hsp.2.1 (.inr (.inl is)); have := hsp.2.2.1 is; omega)
  rw [if_neg is] at hF
  by_cases ih : i = 18
  · rw [if_pos ih] at hF
    obtain ⟨u, rfl⟩ := hF
    obtain rfl | rfl | rfl : j = 12 ∨ j = 13 ∨ j = 14 := by have := hsp.2.1 (.inr (.inr ih)); have := hsp.2.2.2 ih; omega
    · obtain ⟨y, l', vs, F, dz, h1, h2, h3, h4, h5, h6, h7, h8, h9⟩ := h
      exact ⟨y, l', vs, F, dz, h1, h2, h3.stays fun q hq => Below.heap_setCell _ _ _ q (by have := (h3.lt q hq).1; show q ≠ be; omega), h4.far (by show be ≠ b; omega) (by show be ≠ g; omega) _, h5.setCell (fun _ => .inr (.inl rfl)) _, h6.setCell hbeB _, h7, h8, by simpa using h9⟩
    · exact h
    · obtain ⟨y, l', F, h1, h2, h3, h4, h5⟩ := h
      exact ⟨y, l', F, h1, h2.setCell hbeB _, h3.far (by show be ≠ b; omega) (by show be ≠ g; omega) _, h4.setCell (fun _ => .inr (.inl rfl)) _, by simpa using h5⟩
  rw [if_neg ih] at hF
  subst hF
  exact h
end
section
variable {w : World} {b g : Nat} {cur : Array Value} {l : List Wd}
set_option maxRecDepth 100000 in
set_option maxHeartbeats 4000000 in
theorem fMessage_any (hX : Ext) {be B : Nat} {x : Tr} {V : FV} {C : List Nat} (h : Fg w b g cur be B x V C l) (hk0 : (hdW l).k ≠ 0) :
    Calls Tryz.prog 150 #[.pointer (some ⟨be, 0, none⟩)] w (PzQ (roomP x.msgs.length 128 l ((msP dnK l.length 1 l).and fun y l => .ok { x with msgs := x.msgs ++ [y] } l)) (Kd b be B w) (FgK w b g cur be B)) := by
  obtain ⟨i0, hi0, hz0, hz1, hz2⟩ := info_parts Tryz.info49
  rcases V with ⟨vi, vm, ve, vz⟩
  obtain ⟨R, hR⟩ : ∃ R, R = roomP x.msgs.length 128 l ((msP dnK l.length 1 l).and fun y l => Pz.ok { x with msgs := x.msgs ++ [y] } l) := ⟨_, rfl⟩
  rw [← hR]
  unfold roomP at hR
  have HR := Lib.hid hR
  have HM := Lib.hid (room_any h.drew.ps x.msgs.length 128)
  have HS := Lib.hid (fun (W : World) (hp : Ps W b g cur l) => readMessage_any hX l.length 1 (by decide) W l (Nat.le_refl _) hp hk0)
  obtain ⟨A1, c1, hv1, -, -⟩ := h.rows.val (j := 1) rfl
  simp only at hv1
  subst hv1
  have H := Lib.hid h
  obtain ⟨d0, hlt⟩ := h.ptr
  have d4 : w.cell? ⟨be, 3, none⟩ = some (.slice A1 x.msgs.length c1) := h.blk.cell 3
  clear h hR
  go_enter Tryz.func150, Tryz.ntmps150
  go_wp2_with fail
  go_still_tail 10, (by kernel_rfl)
  change wpList _ _ _ _ _ w.drew
  go_wp2_with fail
  refine HM.out.mono ?_
  rintro e w1 ⟨h1, hk1⟩
  have HK1 := Lib.hid (show Kn w w1 from (Kp.refl _ w).drew.trans hk1)
  have HE1 := Lib.hid (H.out.drew.kn hk1)
  clear hk1 d0 d4
  rcases h1 with ⟨hge, rfl⟩ | ⟨hlt4, rfl⟩
  · have HR2 := Lib.hid (show R = .no (hdW l).p 5 by rw [HR.out, if_pos hge])
    clear HM hge HR HS
    unfold Stp stopV
    go_wp2_with fail
    rw [HR2.out]
    exact ⟨rfl, rfl, Kn.kd HK1.out⟩
  · have hR2 := HR.out
    rw [if_neg hlt4] at hR2
    have HR2 := Lib.hid hR2
    have hal : x.msgs.length ≤ 1000000 := by omega
    have elt := HE1.out.ptr.2
    clear HR hR2 hlt4 HM
    go_wp2_with fail
    have hBS : B ≤ w1.heap.size := HE1.out.sz
    have hlb := HE1.out.lb
    have hlg := HE1.out.lg
    have hlB := HE1.out.lB
    clear hlt elt H hk0
    refine wp_region_flow (by kernel_rfl) 30 3 1 (fun i => match i with | 4 => [19] | 8 => [19] | 9 => [20, 21] | 11 => [21] | 12 => [9, 11, 21] | 14 => [12, 13] | 18 => [19] | _ => []) (fun _ => []) (fun i => match i with | 9 => [20] | 12 => [9, 11, 20, 21] | 14 => [9, 11, 12, 20, 21] | 18 => [9, 11, 19, 20, 21] | _ => []) (fun i => ([13, 14, 15, 16, 17, 18, 19, 20, 21, 22, 23, 24, 25, 26, 30, 27, 28, 29, 31, 32, 33, 34] : List Nat).getD i 0) (by kernel_rfl) rfl [13, 14, 15, 16, 17, 18, 19, 20, 21, 22, 23, 24, 25, 26, 30, 27, 28, 29, 31, 32, 33, 34] (by kernel_rfl)
      (fmF b be B) (fmV b be B x.msgs.length A1 c1) (fmP b g cur be B w1.heap.size x.msgs.length w A1 c1 x ⟨vi, .slice A1 x.msgs.length c1, ve, vz⟩ C l (msP dnK l.length 1 l) (frows x ⟨vi, .slice A1 x.msgs.length c1, ve, vz⟩)) ?cong ?st ?t0 ?op ?skip ?done
    case cong =>
      intro i d d' W hi hj h
      refine fmP_cong hi (fun e => ?_) (fun e => ?_) (fun e => ?_) (fun e => ?_) h
      · rcases e with rfl | rfl
        · exact hj 9 (.inl rfl)
        · exact hj 9 (.inr (by kernel_rfl))
      · subst e; exact hj 11 (.inl rfl)
      · rcases e with rfl | rfl | rfl | rfl
        · exact hj 12 (.inl rfl)
        · exact hj 12 (.inr (by kernel_rfl))
        · exact hj 12 (.inr (by kernel_rfl))
        · exact hj 12 (.inr (by kernel_rfl))
      · subst e; exact hj 13 (.inl rfl)
    case st =>
      intro i j d W W' hi hj hij hsp hr h hF
      refine fmP_st (by omega) (by omega) hlb hlg hlB hBS hj hij ?_ ?_ h hF
      · refine ⟨fun e => ⟨?_, ?_, ?_, ?_⟩, fun e => ⟨?_, ?_, ?_⟩⟩
        all_goals
          rintro rfl
          first
          | (subst e; exact absurd (show reach _ 1 _ _ = true by kernel_rfl) (by rw [hr]; decide))
          | (rcases e with rfl | rfl
             · exact absurd (show reach _ 1 _ _ = true by kernel_rfl) (by rw [hr]; decide)
             · exact absurd (show reach _ 1 _ _ = true by kernel_rfl) (by rw [hr]; decide))
      · refine ⟨fun e => ?_, fun e => ⟨?_, ?_, ?_, ?_⟩, fun e => ?_, fun e => ?_⟩
        all_goals
          rintro rfl
          first
          | (subst e; simp at hsp)
          | (rcases e with rfl | rfl | rfl <;> simp at hsp)
    case t0 =>
      intro j d hj
      obtain rfl | rfl | rfl : j = 0 ∨ j = 1 ∨ j = 2 := by omega
      · exact HE1.out.drew.blk
      · exact ⟨HE1.out.drew.ps, Kn.kd HK1.out.drew⟩
      · exact ⟨HE1.out.drew.rows, Nat.le_refl _⟩
    case op =>
      intro i o ho u W hdep hV _ _ K hK
      simp only [over, List.foldl_cons, List.foldl_nil, List.setIfInBounds_toArray, List.set_cons_zero, List.set_cons_succ, List.set_nil, List.getD_cons_zero, List.getD_cons_succ, Array.getD_eq_getD_getElem?, List.getElem?_toArray] at hK hdep hV ⊢
      match i, ho with
      | 0, ho =>
        simp only [List.getElem?_toArray, List.getElem?_cons_zero, List.getElem?_cons_succ, Option.some.injEq] at ho
        subst ho
        go_wp2
        exact hK _ _ rfl trivial rfl
      | 1, ho =>
        simp only [List.getElem?_toArray, List.getElem?_cons_zero, List.getElem?_cons_succ, Option.some.injEq] at ho
        subst ho
        have v0 := hV 0 (by kernel_rfl)
        simp only [List.getD_cons_zero, List.getD_cons_succ, fmV] at v0
        simp only [v0] at hK ⊢
        go_wp2
        exact hK _ _ rfl trivial rfl
      | 2, ho =>
        simp only [List.getElem?_toArray, List.getElem?_cons_zero, List.getElem?_cons_succ, Option.some.injEq] at ho
        subst ho
        have v1 := hV 1 (by kernel_rfl)
        simp only [List.getD_cons_zero, List.getD_cons_succ, fmV] at v1
        simp only [v1] at hK ⊢
        go_wp2
        exact hK _ _ rfl trivial rfl
      | 3, ho =>
        simp only [List.getElem?_toArray, List.getElem?_cons_zero, List.getElem?_cons_succ, Option.some.injEq] at ho
        subst ho
        have v2 := hV 2 (by kernel_rfl)
        simp only [List.getD_cons_zero, List.getD_cons_succ, fmV] at v2
        simp only [v2] at hK ⊢
        go_wp2
        exact hK _ _ rfl trivial rfl
      | 4, ho =>
        simp only [List.getElem?_toArray, List.getElem?_cons_zero, List.getElem?_cons_succ, Option.some.injEq] at ho
        subst ho
        have v3 := hV 3 (by kernel_rfl)
        simp only [List.getD_cons_zero, List.getD_cons_succ, fmV] at v3
        have hb := hdep 19 (by simp)
        have hc := Blk.cell hb 3
        simp only [List.getElem?_toArray, List.getElem?_cons_zero, List.getElem?_cons_succ] at hc
        simp only [v3] at hK ⊢
        go_wp2
        exact hK _ _ rfl trivial rfl
      | 5, ho =>
        simp only [List.getElem?_toArray, List.getElem?_cons_zero, List.getElem?_cons_succ, Option.some.injEq] at ho
        subst ho
        go_wp2
        exact hK _ _ rfl trivial rfl
      | 6, ho =>
        simp only [List.getElem?_toArray, List.getElem?_cons_zero, List.getElem?_cons_succ, Option.some.injEq] at ho
        subst ho
        have v5 := hV 5 (by kernel_rfl)
        simp only [List.getD_cons_zero, List.getD_cons_succ, fmV] at v5
        simp only [v5] at hK ⊢
        go_wp2
        exact hK _ _ rfl trivial rfl
      | 7, ho =>
        simp only [List.getElem?_toArray, List.getElem?_cons_zero, List.getElem?_cons_succ, Option.some.injEq] at ho
        subst ho
        have v6 := hV 6 (by kernel_rfl)
        simp only [List.getD_cons_zero, List.getD_cons_succ, fmV] at v6
        simp only [v6] at hK ⊢
        go_wp2
        exact hK _ _ rfl trivial rfl
      | 8, ho =>
        simp only [List.getElem?_toArray, List.getElem?_cons_zero, List.getElem?_cons_succ, Option.some.injEq] at ho
        subst ho
        have v7 := hV 7 (by kernel_rfl)
        simp only [List.getD_cons_zero, List.getD_cons_succ, fmV] at v7
        have hb := hdep 19 (by simp)
        have hc := Blk.cell hb 0
        simp only [List.getElem?_toArray, List.getElem?_cons_zero, List.getElem?_cons_succ] at hc
        simp only [v7] at hK ⊢
        go_wp2
        exact hK _ _ rfl trivial rfl
      | 9, ho =>
        simp only [List.getElem?_toArray, List.getElem?_cons_zero, List.getElem?_cons_succ, Option.some.injEq] at ho
        subst ho
        have v8 := hV 8 (by kernel_rfl)
        simp only [List.getD_cons_zero, List.getD_cons_succ, fmV] at v8
        simp only [v8] at hK ⊢
        obtain ⟨hp, hkd⟩ := hdep 20 (by simp)
        obtain ⟨-, hsz⟩ := hdep 21 (by simp)
        go_wp2_with fail
        refine (HS.out W hp).mono ?_
        intro e W2 hq
        cases hr : msP dnK l.length 1 l with
        | no p c =>
          rw [hr] at hq
          obtain ⟨rfl, hk⟩ := hq
          refine ⟨rfl, ?_⟩
          rw [HR2.out, hr]
          exact ⟨rfl, hkd.trans (Kp.kd hk)⟩
        | ok y l' =>
          rw [hr] at hq
          obtain ⟨v, rfl, vs, F, rfl, hm, hp2, hk⟩ := hq
          have hl8 : vs.size = 8 := by
            have := hm.len
            rw [Ms_len] at this
            simpa using this
          exact hK (.agg vs) W2 ⟨vs, rfl, hl8, Array.all_eq_true_iff_forall_mem.2 fun v hv => hm.one v (by simpa using hv)⟩ ⟨y, l', vs, F, hr, rfl, hm.base hsz, hp2, hkd.trans (Kp.kd hk)⟩ hk
      | 10, ho =>
        simp only [List.getElem?_toArray, List.getElem?_cons_zero, List.getElem?_cons_succ, Option.some.injEq] at ho
        subst ho
        have v4 := hV 4 (by kernel_rfl)
        simp only [List.getD_cons_zero, List.getD_cons_succ, fmV] at v4
        simp only [v4] at hK ⊢
        go_wp2
        exact hK _ _ rfl trivial rfl
      | 11, ho =>
        simp only [List.getElem?_toArray, List.getElem?_cons_zero, List.getElem?_cons_succ, Option.some.injEq] at ho
        subst ho
        obtain ⟨-, hsz⟩ := hdep 21 (by simp)
        go_wp2
        exact hK _ _ ⟨W.heap.size, rfl⟩ ⟨W.heap.size, rfl, Blk.new W 49 _, hsz⟩ ⟨_, rfl⟩
      | 12, ho =>
        simp only [List.getElem?_toArray, List.getElem?_cons_zero, List.getElem?_cons_succ, Option.some.injEq] at ho
        subst ho
        have v4 := hV 4 (by kernel_rfl)
        simp only [List.getD_cons_zero, List.getD_cons_succ, fmV] at v4
        have v11 := hV 11 (by kernel_rfl)
        obtain ⟨y, l', vs, F, h1, h2, h3, h4, h5⟩ := hdep 9 (by simp)
        obtain ⟨q, hq1, hq2, hq3⟩ := hdep 11 (by simp)
        obtain ⟨hrw, hsz⟩ := hdep 21 (by simp)
        simp only [List.getD_cons_zero, List.getD_cons_succ, List.getElem?_cons_zero, List.getElem?_cons_succ, Option.getD_some] at h2 hq1
        simp only [v4, hq1] at hK ⊢
        refine wp_append_rows W _ _ 23 (by rfl) hrw 1 (rwMs x.msgs (.slice A1 x.msgs.length c1)) (by rfl) i0 _ 168 Tryz.underlying23 hi0 hz0 hz1 hz2 (by rfl) (Nat.succ_pos 7) (by rfl) q (by rfl) _ (Ms.dv Ty0 zMs) hq2 (by rfl) (zMs_mem W B) (by intro q hq; cases hq) hal (by decide) (Nat.le_trans hBS hsz) ?_
        intro v' w' ho hg hv
        rw [List.append_nil] at ho
        have hown : ∀ k, (Value.slice A1 x.msgs.length c1).ownBlock = some k → B ≤ k ∧ k < w1.heap.size := fun k e => (HE1.out.rows.own_mem (j := 1) rfl e).2
        obtain ⟨g2, c2, hv2, hg2⟩ := ho.val_pos (j := 1) rfl (Nat.succ_pos _)
        have hfar : ∀ i ∈ F, i ∉ owns ((frows x ⟨vi, .slice A1 x.msgs.length c1, ve, vz⟩).set 1 ⟨49, 8, x.msgs.length + 1, x.msgs.flatMap (Ms.dv Ty0) ++ Ms.dv Ty0 zMs, v'⟩) := by
          intro i hi hm
          have hlt := h3.lt i hi
          rcases owns_set_mem _ _ _ _ hm with e | e
          · rcases hv with e2 | e2
            · have := hown i (by rw [← e]; exact e2.symm); omega
            · have e3 : v'.ownBlock = some i := e
              rw [e2] at e3; injection e3 with e3; omega
          · have := HE1.out.rows.own_lt i e; omega
        refine hK v' w' ⟨g2, c2, hv2, hg2⟩ ⟨y, l', vs, F, Ms.dv Ty0 zMs, h1, h2, ?_, ?_, ?_, ho, Ms_len _ _, hfar, Nat.le_trans hsz hg.size⟩ ⟨_, hg, fun k e => (hown k e).1⟩
        · exact h3.stays fun i hi => hg.block i (h3.lt i hi).2 fun e => by have := hown i e.symm; have := h3.lt i hi; omega
        · exact h4.kp (Kp.of_grown hg) (fun e => by have := hown b e.symm; omega) (fun e => by have := hown g e.symm; omega)
        · exact h5.grown hg fun i hi _ => .inr (.inr (hown i hi).1)
      | 13, ho =>
        simp only [List.getElem?_toArray, List.getElem?_cons_zero, List.getElem?_cons_succ, Option.some.injEq] at ho
        subst ho
        have v10 := hV 10 (by kernel_rfl)
        simp only [List.getD_cons_zero, List.getD_cons_succ, fmV] at v10
        have v12 := hV 12 (by kernel_rfl)
        simp only [List.getD_cons_zero, List.getD_cons_succ, List.getElem?_cons_zero, List.getElem?_cons_succ, Option.getD_some, fmV] at v12
        obtain ⟨g2, c2, hv2, hg2⟩ := v12
        simp only [v10, hv2] at hK ⊢
        refine wp_index_last 23 49 i0 8 g2 x.msgs.length c2 _ _ (by rfl) Tryz.underlying23 hi0 hz1 (by rfl) (by rfl) ?_
        exact hK _ _ trivial ⟨g2, c2, hv2, rfl⟩ rfl
      | 14, ho =>
        simp only [List.getElem?_toArray, List.getElem?_cons_zero, List.getElem?_cons_succ, Option.some.injEq] at ho
        subst ho
        have v12 := hV 12 (by kernel_rfl)
        obtain ⟨y, l', vs, F, dz, h1, h2, h3, h4, h5, h6, h7, h8, h9⟩ := hdep 12 (by simp)
        obtain ⟨g2, c2, h10, h11⟩ := hdep 13 (by simp)
        simp only [List.getD_cons_zero, List.getD_cons_succ, List.getElem?_cons_zero, List.getElem?_cons_succ, Option.getD_some] at h2 h6 h8 h10 h11
        have hl8 : vs.size = 8 := by
          have := h3.len
          rw [Ms_len] at this
          simpa using this
        obtain ⟨ht, hrow, hgr⟩ := h6.store_last 1 _ (by rfl) x.msgs.length (x.msgs.flatMap (Ms.dv Ty0)) dz (Ms.dv Ty0 y) vs.toList rfl rfl h7 (by simpa using hl8) h10 (h3.base hBS) h8
        have hg2 : B ≤ g2 := (h6.own_mem (j := 1) (q := g2) rfl (by show Value.ownBlock _ = _; rw [h10]; rfl)).2.1
        simp only [h2, h11] at hK ⊢
        refine wp_store_mid 49 _ _ (by rfl) g2 (x.msgs.length * 8) vs (by rfl) (by rfl) (by rw [hl8]; exact ht) (by rw [hl8, hi0]; simp [hz1]) (Array.all_eq_true_iff_forall_mem.2 fun v hv => h3.one v (by simpa using hv)) ?_
        refine hK undef _ trivial ⟨y, l', F, h1, hrow, ?_, ?_, Nat.le_trans h9 hgr.size⟩ ⟨g2, hgr, hg2⟩
        · exact h4.kp (Kp.of_grown hgr) (fun e => by injection e with e; omega) (fun e => by injection e with e; omega)
        · exact h5.grown hgr fun i hi _ => .inr (.inr (by injection hi with hi; omega))
      | 15, ho =>
        simp only [List.getElem?_toArray, List.getElem?_cons_zero, List.getElem?_cons_succ, Option.some.injEq] at ho
        subst ho
        have v0 := hV 0 (by kernel_rfl)
        simp only [List.getD_cons_zero, List.getD_cons_succ, fmV] at v0
        simp only [v0] at hK ⊢
        go_wp2
        exact hK _ _ rfl trivial rfl
      | 16, ho =>
        simp only [List.getElem?_toArray, List.getElem?_cons_zero, List.getElem?_cons_succ, Option.some.injEq] at ho
        subst ho
        have v15 := hV 15 (by kernel_rfl)
        simp only [List.getD_cons_zero, List.getD_cons_succ, fmV] at v15
        simp only [v15] at hK ⊢
        go_wp2
        exact hK _ _ rfl trivial rfl
      | 17, ho =>
        simp only [List.getElem?_toArray, List.getElem?_cons_zero, List.getElem?_cons_succ, Option.some.injEq] at ho
        subst ho
        have v16 := hV 16 (by kernel_rfl)
        simp only [List.getD_cons_zero, List.getD_cons_succ, fmV] at v16
        simp only [v16] at hK ⊢
        go_wp2
        exact hK _ _ rfl trivial rfl
      | 18, ho =>
        simp only [List.getElem?_toArray, List.getElem?_cons_zero, List.getElem?_cons_succ, Option.some.injEq] at ho
        subst ho
        have v12 := hV 12 (by kernel_rfl)
        have v17 := hV 17 (by kernel_rfl)
        simp only [List.getD_cons_zero, List.getD_cons_succ, fmV] at v17
        have hb := hdep 19 (by simp)
        have hc := Blk.cell hb 3
        have hf := Blk.frozen hb 3
        simp only [List.getElem?_toArray, List.getElem?_cons_zero, List.getElem?_cons_succ] at hc
        simp only [List.getD_cons_zero, List.getD_cons_succ, List.getElem?_cons_zero, List.getElem?_cons_succ, Option.getD_some, fmV] at v12
        obtain ⟨g2, c2, hv2, hg2⟩ := v12
        simp only [v17, hv2] at hK ⊢
        go_wp2
        exact hK undef _ trivial (by show Blk _ be 154 #[_, _, _, u 25, _, _]; rw [hv2]; exact Blk.set_ hb 3 _) ⟨_, rfl⟩
      | k + 19, ho => simp at ho
    case skip =>
      intro i o g b ho hg
      rw [no_guard (by kernel_rfl) ho] at hg
      cases hg
    case done =>
      intro u W hV hP
      obtain ⟨y, l', F, h1, h2, h3, h4, h5⟩ := hP 14 (by decide) (by decide)
      have hb := hP 18 (by decide) (by decide)
      rw [HR2.out, h1]
      go_end0
      refine ⟨_, rfl, rfl, ⟨⟨vi, u 25, ve, vz⟩, C ++ F, h3, hb, ?_, hlb, hlg, hlB, Nat.le_trans hBS h5⟩, h4⟩
      have h6 : Rows_ W B ((frows x ⟨vi, .slice A1 x.msgs.length c1, ve, vz⟩).set 1 ⟨49, 8, x.msgs.length + 1, x.msgs.flatMap (Ms.dv Ty0) ++ Ms.dv Ty0 y, u 25⟩) (C ++ F) := h2
      rw [show (⟨49, 8, x.msgs.length + 1, x.msgs.flatMap (Ms.dv Ty0) ++ Ms.dv Ty0 y, u 25⟩ : Rw) = rwMs (x.msgs ++ [y]) (u 25) from rwMs_snoc x.msgs y (.slice none 0 0) (u 25)] at h6
      exact h6
end
end Go.Proofs.YthmdaejlopjjoaaGreatDoor
