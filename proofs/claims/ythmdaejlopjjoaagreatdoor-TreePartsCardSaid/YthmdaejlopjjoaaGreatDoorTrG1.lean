/-
  tree: what Parse defers: a stop is recovered.
-/
import Derived.Test.YthmdaejlopjjoaaGreatDoorFlB
import Derived.Recover
namespace Go.Proofs.YthmdaejlopjjoaaGreatDoor
open Go.RowKit
set_option linter.unusedVariables false
set_option linter.unusedSimpArgs false

/-- Only the three results have turned. -/
abbrev K3 (t a c : Nat) (w w' : World) : Prop := Kp (fun k => k = t ∨ k = a ∨ k = c) w w'
def stV (q p e : Nat) : Nat → Value → Prop
  | 0, v => v = .agg #[.string ⟨#[]⟩, .slice none 0 0, .slice none 0 0, .slice none 0 0, .slice none 0 0]
  | 1, v => v = .pointer (some ⟨q, 0, none⟩)
  | 2, v => v = .int .i64 (p : Nat)
  | 3, v => v = .pointer (some ⟨q, 1, none⟩)
  | 4, v => v = .int .i64 (e : Nat)
  | _, _ => True
def stP (t a c q p e : Nat) (t0 t1 t2 t3 t4 a0 c0 : Value) (w : World) : Nat → (Nat → Value) → World → Prop
  | 5, _, W => Blk W t 27 #[.string ⟨#[]⟩, .slice none 0 0, .slice none 0 0, .slice none 0 0, .slice none 0 0] ∧ Blk W a 3 #[a0] ∧ Blk W c 28 #[c0] ∧ K3 t a c w W
  | 6, _, W => Blk W t 27 #[.string ⟨#[]⟩, .slice none 0 0, .slice none 0 0, .slice none 0 0, .slice none 0 0] ∧ Blk W a 3 #[.int .i64 p] ∧ Blk W c 28 #[c0] ∧ K3 t a c w W
  | 7, _, W => Blk W t 27 #[.string ⟨#[]⟩, .slice none 0 0, .slice none 0 0, .slice none 0 0, .slice none 0 0] ∧ Blk W a 3 #[.int .i64 p] ∧ Blk W c 28 #[.int .i64 e] ∧ K3 t a c w W
  | 8, _, W => Blk W q 102 #[.int .i64 p, .int .i64 e]
  | 9, _, W => Blk W t 27 #[t0, t1, t2, t3, t4] ∧ Blk W a 3 #[a0] ∧ Blk W c 28 #[c0] ∧ K3 t a c w W
  | _, _, _ => True
def stF (t a c : Nat) (i : Nat) (W W' : World) : Prop := if i = 5 ∨ i = 6 ∨ i = 7 then K3 t a c W W' else W' = W
set_option maxRecDepth 100000 in
set_option maxHeartbeats 4000000 in
theorem stop_found (p e : Nat) (t a c : Nat) (t0 t1 t2 t3 t4 a0 c0 : Value) (older : List PanicEntry) (w : World) (hta : t ≠ a) (htc : t ≠ c) (hac : a ≠ c)
    (ht : Blk w t 27 #[t0, t1, t2, t3, t4]) (ha : Blk w a 3 #[a0]) (hc : Blk w c 28 #[c0]) :
    CallsD Tryz.prog 54 #[.pointer (some ⟨t, 0, none⟩), .pointer (some ⟨a, 0, none⟩), .pointer (some ⟨c, 0, none⟩)] (.panicking ({ v := stopV p e, recovered := false } :: older)) w fun E u' w' =>
      E = .returned (.tuple #[]) ∧ u' = .panicking ({ v := stopV p e, recovered := true } :: older) ∧ Blk w' t 27 #[.string ⟨#[]⟩, .slice none 0 0, .slice none 0 0, .slice none 0 0, .slice none 0 0] ∧ Blk w' a 3 #[.int .i64 p] ∧ Blk w' c 28 #[.int .i64 e] ∧ K3 t a c w w' := by
  refine callsD_of_wpS Tryz.func54 rfl fun c₀ cs hu => ?_
  apply wpS_seq
  apply wpS_region
  simp [wpOpsS, go_sem, recoverD, hu, Tryz.ntmps54, Exit.thenS]
  refine wpS_of_wp ?_
  have hcast : ∀ W : World, (Instr.typeAssert (stopV p e) 20 102 false).run Tryz.prog W = .ok (.agg #[.int .i64 p, .int .i64 e]) W := fun W => by kernel_rfl
  unfold stopV at hcast ⊢
  change Code.wp Tryz.prog _ _ { tmps := #[.pointer (some ⟨t, 0, none⟩), .pointer (some ⟨a, 0, none⟩), .pointer (some ⟨c, 0, none⟩), .iface 102 (.agg #[.int .i64 p, .int .i64 e]), undef, .iface 102 (.agg #[.int .i64 p, .int .i64 e]), undef, undef, undef, undef, undef, undef, undef, undef, undef], defers := [] } w
  go_wp2_with fail
  have HQ := Lib.hid (Blk.new w 102 #[.int .i64 p, .int .i64 e])
  have HT := Lib.hid (ht.alloc (.cells #[.int .i64 p, .int .i64 e] 102))
  have HA := Lib.hid (ha.alloc (.cells #[.int .i64 p, .int .i64 e] 102))
  have HC := Lib.hid (hc.alloc (.cells #[.int .i64 p, .int .i64 e] 102))
  have HK := Lib.hid (show K3 t a c w (w.alloc (.cells #[.int .i64 p, .int .i64 e] 102)) from (Kp.refl _ w).alloc _)
  have htq := ht.lt
  have haq := ha.lt
  have hcq := hc.lt
  clear ht ha hc hcast
  generalize World.alloc w _ = w1 at *
  generalize w.heap.size = q at *
  refine wp_region_flow (by kernel_rfl) 15 2 1 (fun i => match i with | 2 => [8] | 4 => [8] | 5 => [9] | 6 => [5] | 7 => [6] | _ => []) (fun _ => []) (fun i => match i with | 5 => [9] | 6 => [5, 9] | 7 => [5, 6, 9] | _ => []) (fun i => ([10, 11, 12, 13, 14, 15, 16, 17, 18, 19] : List Nat).getD i 0) (by kernel_rfl) rfl [10, 11, 12, 13, 14, 15, 16, 17, 18, 19] (by kernel_rfl)
    (stF t a c) (stV q p e) (stP t a c q p e t0 t1 t2 t3 t4 a0 c0 w) ?cong ?st ?t0 ?op ?skip ?done
  case cong =>
    intro i d d' W hi hj h
    have hi : i < 10 := hi
    obtain rfl | rfl | rfl | rfl | rfl | rfl | rfl | rfl | rfl | rfl : i = 0 ∨ i = 1 ∨ i = 2 ∨ i = 3 ∨ i = 4 ∨ i = 5 ∨ i = 6 ∨ i = 7 ∨ i = 8 ∨ i = 9 := by omega
    all_goals exact h
  case st =>
    intro i j d W W' hi hj hij hsp hr h hF
    have hi : i < 8 := hi
    have hj : j < 10 := hj
    unfold stF at hF
    by_cases i5 : i = 5 ∨ i = 6 ∨ i = 7
    · rw [if_pos i5] at hF
      by_cases j8 : j = 8
      · subst j8
        exact Blk.kp h hF (by rintro (e | e | e) <;> omega)
      by_cases j5 : j = 5 ∨ j = 6 ∨ j = 7 ∨ j = 9
      · exfalso
        rcases i5 with rfl | rfl | rfl <;> rcases j5 with rfl | rfl | rfl | rfl
        all_goals first
          | exact hij rfl
          | (simp at hsp; done)
          | exact absurd (show reach _ 1 _ _ = true by kernel_rfl) (by rw [hr]; decide)
      · obtain rfl | rfl | rfl | rfl | rfl : j = 0 ∨ j = 1 ∨ j = 2 ∨ j = 3 ∨ j = 4 := by omega
        all_goals trivial
    · rw [if_neg i5] at hF
      subst hF
      exact h
  case t0 =>
    intro j d hj
    obtain rfl | rfl : j = 0 ∨ j = 1 := by omega
    · exact HQ.out
    · exact ⟨HT.out, HA.out, HC.out, HK.out.drew⟩
  case op =>
    intro i o ho u W hdep hV _ _ K hK
    simp only [over, List.foldl_cons, List.foldl_nil, List.setIfInBounds_toArray, List.set_cons_zero, List.set_cons_succ, List.set_nil, List.getD_cons_zero, List.getD_cons_succ, Array.getD_eq_getD_getElem?, List.getElem?_toArray] at hK hdep hV ⊢
    match i, ho with
    | 0, ho =>
      simp only [List.getElem?_toArray, List.getElem?_cons_zero, List.getElem?_cons_succ, Option.some.injEq] at ho
      subst ho
      go_wp2
      exact hK _ _ rfl trivial rfl
    | 1, ho =>
      simp only [List.getElem?_toArray, List.getElem?_cons_zero, List.getElem?_cons_succ, Option.some.injEq] at ho
      subst ho
      go_wp2
      exact hK _ _ rfl trivial rfl
    | 2, ho =>
      simp only [List.getElem?_toArray, List.getElem?_cons_zero, List.getElem?_cons_succ, Option.some.injEq] at ho
      subst ho
      have v1 := hV 1 (by kernel_rfl)
      simp only [List.getD_cons_zero, List.getD_cons_succ, stV] at v1
      have hq := hdep 8 (by simp)
      have hc := Blk.cell hq 0
      simp only [List.getElem?_toArray, List.getElem?_cons_zero] at hc
      simp only [v1] at hK ⊢
      go_wp2
      exact hK _ _ rfl trivial rfl
    | 3, ho =>
      simp only [List.getElem?_toArray, List.getElem?_cons_zero, List.getElem?_cons_succ, Option.some.injEq] at ho
      subst ho
      go_wp2
      exact hK _ _ rfl trivial rfl
    | 4, ho =>
      simp only [List.getElem?_toArray, List.getElem?_cons_zero, List.getElem?_cons_succ, Option.some.injEq] at ho
      subst ho
      have v3 := hV 3 (by kernel_rfl)
      simp only [List.getD_cons_zero, List.getD_cons_succ, stV] at v3
      have hq := hdep 8 (by simp)
      have hc := Blk.cell hq 1
      simp only [List.getElem?_toArray, List.getElem?_cons_zero, List.getElem?_cons_succ] at hc
      simp only [v3] at hK ⊢
      go_wp2
      exact hK _ _ rfl trivial rfl
    | 5, ho =>
      simp only [List.getElem?_toArray, List.getElem?_cons_zero, List.getElem?_cons_succ, Option.some.injEq] at ho
      subst ho
      have v0 := hV 0 (by kernel_rfl)
      simp only [List.getD_cons_zero, List.getD_cons_succ, stV] at v0
      simp only [v0] at hK ⊢
      obtain ⟨hT, hA, hC, hk⟩ := hdep 9 (by simp)
      obtain ⟨⟨m0, m1, m2, m3, m4⟩, f0, f1, f2, f3, f4⟩ := hT.five_
      go_wp2
      exact hK undef _ trivial ⟨hT.put5 _ _ _ _ _, Blk.kp hA (Kp.put5 (S := fun k => k = t) (Kp.refl _ W) (fun _ => rfl) _ _ _ _ _) (by omega), Blk.kp hC (Kp.put5 (S := fun k => k = t) (Kp.refl _ W) (fun _ => rfl) _ _ _ _ _) (by omega), hk.put5 (fun _ => .inl rfl) _ _ _ _ _⟩ (Kp.put5 (Kp.refl _ W) (fun _ => .inl rfl) _ _ _ _ _)
    | 6, ho =>
      simp only [List.getElem?_toArray, List.getElem?_cons_zero, List.getElem?_cons_succ, Option.some.injEq] at ho
      subst ho
      have v2 := hV 2 (by kernel_rfl)
      simp only [List.getD_cons_zero, List.getD_cons_succ, stV] at v2
      simp only [v2] at hK ⊢
      obtain ⟨hT, hA, hC, hk⟩ := hdep 5 (by simp)
      have hc := hA.cell 0
      have hf := hA.frozen 0
      simp only [List.getElem?_toArray, List.getElem?_cons_zero] at hc
      go_wp2
      exact hK undef _ trivial ⟨hT.far (p := ⟨a, 0, none⟩) (by show t ≠ a; omega) _, hA.set_ 0 _, hC.far (p := ⟨a, 0, none⟩) (by show c ≠ a; omega) _, hk.setCell (fun _ => .inr (.inl rfl)) _⟩ ((Kp.refl _ W).setCell (fun _ => .inr (.inl rfl)) _)
    | 7, ho =>
      simp only [List.getElem?_toArray, List.getElem?_cons_zero, List.getElem?_cons_succ, Option.some.injEq] at ho
      subst ho
      have v4 := hV 4 (by kernel_rfl)
      simp only [List.getD_cons_zero, List.getD_cons_succ, stV] at v4
      simp only [v4] at hK ⊢
      obtain ⟨hT, hA, hC, hk⟩ := hdep 6 (by simp)
      have hc := hC.cell 0
      have hf := hC.frozen 0
      simp only [List.getElem?_toArray, List.getElem?_cons_zero] at hc
      go_wp2
      exact hK undef _ trivial ⟨hT.far (p := ⟨c, 0, none⟩) (by show t ≠ c; omega) _, hA.far (p := ⟨c, 0, none⟩) (by show a ≠ c; omega) _, hC.set_ 0 _, hk.setCell (fun _ => .inr (.inr rfl)) _⟩ ((Kp.refl _ W).setCell (fun _ => .inr (.inr rfl)) _)
    | k + 8, ho => simp at ho
  case skip =>
    intro i o g b ho hg
    rw [no_guard (by kernel_rfl) ho] at hg
    cases hg
  case done =>
    intro u W hV hP
    obtain ⟨hT, hA, hC, hk⟩ := hP 7 (by decide) (by decide)
    exact ⟨rfl, _, rfl, .tuple #[], by simp [results, Tryz.results54, go_sem], rfl, rfl, hT, hA, hC, hk⟩
set_option maxRecDepth 100000 in
set_option maxHeartbeats 4000000 in
theorem stop_none (t a c : Nat) (w : World) :
    CallsD Tryz.prog 54 #[.pointer (some ⟨t, 0, none⟩), .pointer (some ⟨a, 0, none⟩), .pointer (some ⟨c, 0, none⟩)] .returning w fun E u' w' => E = .returned (.tuple #[]) ∧ u' = .returning ∧ w' = w := by
  refine callsD_of_wpS Tryz.func54 rfl fun c₀ cs hu => ?_
  apply wpS_seq
  apply wpS_region
  simp [wpOpsS, go_sem, recoverD, hu, Tryz.ntmps54, Exit.thenS]
  refine wpS_of_wp ?_
  change Code.wp Tryz.prog _ _ { tmps := #[.pointer (some ⟨t, 0, none⟩), .pointer (some ⟨a, 0, none⟩), .pointer (some ⟨c, 0, none⟩), .nilIface, undef, .nilIface, undef, undef, undef, undef, undef, undef, undef, undef, undef], defers := [] } w
  go_wp2_with fail
  refine ⟨rfl, .returning, ?_, .tuple #[], by simp [results, Tryz.results54, go_sem], rfl, rfl, rfl⟩
  cases c₀
  simp only at hu
  subst hu
  rfl
end Go.Proofs.YthmdaejlopjjoaaGreatDoor
