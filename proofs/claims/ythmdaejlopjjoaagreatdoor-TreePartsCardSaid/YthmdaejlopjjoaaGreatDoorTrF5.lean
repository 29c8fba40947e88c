/-
  tree: the name of a package.
-/
import Derived.Test.YthmdaejlopjjoaaGreatDoorMsD
namespace Go.Proofs.YthmdaejlopjjoaaGreatDoor
open Go.RowKit
set_option linter.unusedVariables false
set_option linter.unusedSimpArgs false

def pkV (b be : Nat) (l2 : List Wd) : Nat → Value → Prop
  | 0, v => v = .pointer (some ⟨be, 0, none⟩)
  | 1, v => v = .pointer (some ⟨be, 0, none⟩)
  | 2, v => v = .pointer (some ⟨be, 0, none⟩)
  | 3, v => v = .pointer (some ⟨be, 0, none⟩)
  | 4, v => v = .pointer (some ⟨b, 0, none⟩)
  | 5, v => v = .pointer (some ⟨be, 0, none⟩)
  | 6, v => v = .pointer (some ⟨be, 0, none⟩)
  | 7, v => v = .pointer (some ⟨be, 0, none⟩)
  | 8, v => v = .pointer (some ⟨b, 0, none⟩)
  | 9, v => v = wV (hdW l2)
  | 10, v => v = .int .i64 (hdW l2).p
  | 11, v => ∃ s, v = .string s
  | 12, v => v = .pointer (some ⟨be, 0, none⟩)
  | 13, v => v = .pointer (some ⟨be, 1, none⟩)
  | 14, v => v = .pointer (some ⟨be, 1, none⟩)
  | _, _ => True
def pkP (b g : Nat) (cur : Array Value) (be B : Nat) (w0 : World) (x : Tr) (V : FV) (C : List Nat) (l2 : List Wd) : Nat → (Nat → Value) → World → Prop
  | 11, d, W => ∃ s l', fullP kNone (hdW l2).p l2 = .ok s l' ∧ d 11 = .string s ∧ Fg W b g cur be B x V C l' ∧ Kd b be B w0 W
  | 15, d, W => ∃ s l', fullP kNone (hdW l2).p l2 = .ok s l' ∧ Fg W b g cur be B { x with pkg := s } V C l' ∧ Kd b be B w0 W
  | 16, d, W => Fg W b g cur be B x V C l2 ∧ Kb b w0 W
  | _, _, _ => True
def pkF (i : Nat) (W W' : World) : Prop := if i = 9 then Kn W W' else if i = 11 ∨ i = 15 then True else W' = W
section
variable {w : World} {b g : Nat} {cur : Array Value} {l : List Wd}
set_option maxRecDepth 100000 in
set_option maxHeartbeats 4000000 in
theorem fPackage_any {be B : Nat} {x : Tr} {V : FV} {C : List Nat} (h : Fg w b g cur be B x V C l) (hk0 : (hdW l).k ≠ 0) :
    Calls Tryz.prog 148 #[.pointer (some ⟨be, 0, none⟩)] w (PzQ (if x.pkg ≠ kNone then refuse l else (fullP kNone (hdW l.tail).p l.tail).and fun s l => (expP [kSemi] l).and fun _ l => .ok { x with pkg := s } l) (Kd b be B w) (FgK w b g cur be B)) := by
  obtain ⟨R, hR⟩ : ∃ R, R = (if x.pkg ≠ kNone then refuse l else (fullP kNone (hdW l.tail).p l.tail).and fun s l => (expP [kSemi] l).and fun _ l => Pz.ok { x with pkg := s } l) := ⟨_, rfl⟩
  rw [← hR]
  have HR := Lib.hid hR
  have H := Lib.hid h
  obtain ⟨d0, hlt⟩ := h.ptr
  have d1 : w.cell? ⟨be, 1, none⟩ = some (.string x.pkg) := h.blk.cell 1
  clear h hR
  by_cases hpk : x.pkg = kNone
  · have hR2 := HR.out
    rw [if_neg (by simp [hpk])] at hR2
    have HR2 := Lib.hid hR2
    have HPK := Lib.hid hpk
    rw [hpk] at d1
    have HO := Lib.hid (pass_any H.out.ps hk0)
    clear HR hR2 hpk
    go_enter Tryz.func148, Tryz.ntmps148
    go_wp2_with fail
    refine HO.out.mono ?_
    rintro e w2 ⟨rfl, hp, hk⟩
    have HE2 := Lib.hid (H.out.next hp hk)
    have HK2 := Lib.hid hk
    obtain ⟨l2, hl2⟩ : ∃ l2, l2 = l.tail := ⟨_, rfl⟩
    rw [← hl2] at HE2
    have hR3 := HR2.out
    rw [← hl2] at hR3
    have HR3 := Lib.hid hR3
    clear HO hp hk d0 d1 hlt hR3 HR2 hl2 H
    unfold wV
    go_wp2_with fail
    go_cut [] (fun wx => ∃ s l', fullP kNone (hdW l2).p l2 = .ok s l' ∧ Fg wx b g cur be B { x with pkg := s } V C l' ∧ Kd b be B w wx)
    case first =>
      refine wp_region_flow (by kernel_rfl) 39 1 1 (fun i => match i with | 4 => [16] | 8 => [16] | 9 => [16] | 11 => [16] | 15 => [11] | _ => []) (fun _ => []) (fun i => match i with | 11 => [16] | 15 => [11, 16] | _ => []) (fun i => ([18, 19, 20, 21, 22, 23, 24, 25, 26, 27, 28, 29, 30, 31, 32, 39, 40] : List Nat).getD i 0) (by kernel_rfl) rfl [18, 19, 20, 21, 22, 23, 24, 25, 26, 27, 28, 29, 30, 31, 32, 39, 40] (by kernel_rfl)
        pkF (pkV b be l2) (pkP b g cur be B w x V C l2) ?cong ?st ?t0 ?op ?skip ?done
      case cong =>
        intro i d d' W hi hj h
        have hi : i < 17 := hi
        obtain rfl | rfl | rfl | rfl | rfl | rfl | rfl | rfl | rfl | rfl | rfl | rfl | rfl | rfl | rfl | rfl | rfl : i = 0 ∨ i = 1 ∨ i = 2 ∨ i = 3 ∨ i = 4 ∨ i = 5 ∨ i = 6 ∨ i = 7 ∨ i = 8 ∨ i = 9 ∨ i = 10 ∨ i = 11 ∨ i = 12 ∨ i = 13 ∨ i = 14 ∨ i = 15 ∨ i = 16 := by omega
        all_goals first
          | trivial
          | exact h
          | (obtain ⟨s, l', h1, h2, h3⟩ := h; exact ⟨s, l', h1, (hj 11 (.inl rfl)).symm.trans h2, h3⟩)
      case st =>
        intro i j d W W' hi hj hij hsp hr h hF
        have hj : j < 17 := hj
        unfold pkF at hF
        by_cases i9 : i = 9
        · rw [if_pos i9] at hF
          by_cases j16 : j = 16
          · subst j16; exact ⟨h.1.kn hF, h.2.trans (Kn.kb hF b)⟩
          by_cases j11 : j = 11
          · subst i9 j11; exact absurd (show reach _ 1 11 9 = true by kernel_rfl) (by rw [hr]; decide)
          by_cases j15 : j = 15
          · subst i9 j15; exact absurd (show reach _ 1 15 9 = true by kernel_rfl) (by rw [hr]; decide)
          · obtain rfl | rfl | rfl | rfl | rfl | rfl | rfl | rfl | rfl | rfl | rfl | rfl | rfl | rfl : j = 0 ∨ j = 1 ∨ j = 2 ∨ j = 3 ∨ j = 4 ∨ j = 5 ∨ j = 6 ∨ j = 7 ∨ j = 8 ∨ j = 9 ∨ j = 10 ∨ j = 12 ∨ j = 13 ∨ j = 14 := by omega
            all_goals trivial
        rw [if_neg i9] at hF
        by_cases i1 : i = 11 ∨ i = 15
        · by_cases j0 : j = 11 ∨ j = 15 ∨ j = 16
          · rcases i1 with rfl | rfl
            · rcases j0 with rfl | rfl | rfl
              · exact absurd rfl hij
              · exact absurd (show reach _ 1 15 11 = true by kernel_rfl) (by rw [hr]; decide)
              · simp at hsp
            · rcases j0 with rfl | rfl | rfl
              · simp at hsp
              · exact absurd rfl hij
              · simp at hsp
          · obtain rfl | rfl | rfl | rfl | rfl | rfl | rfl | rfl | rfl | rfl | rfl | rfl | rfl | rfl : j = 0 ∨ j = 1 ∨ j = 2 ∨ j = 3 ∨ j = 4 ∨ j = 5 ∨ j = 6 ∨ j = 7 ∨ j = 8 ∨ j = 9 ∨ j = 10 ∨ j = 12 ∨ j = 13 ∨ j = 14 := by omega
            all_goals trivial
        rw [if_neg i1] at hF
        subst hF
        exact h
      case t0 =>
        intro j d hj
        obtain rfl : j = 0 := by omega
        exact ⟨HE2.out.drew, HK2.out.drew⟩
      case op =>
        intro i o ho u W hdep hV _ _ K hK
        simp only [over, List.foldl_cons, List.foldl_nil, List.setIfInBounds_toArray, List.set_cons_zero, List.set_cons_succ, List.set_nil, List.getD_cons_zero, List.getD_cons_succ, Array.getD_eq_getD_getElem?, List.getElem?_toArray] at hK hdep hV ⊢
        match i, ho with
        | 0, ho =>
          simp only [List.getElem?_toArray, List.getElem?_cons_zero, List.getElem?_cons_succ, Option.some.injEq] at ho
          subst ho
          go_wp2
          exact hK _ _ rfl trivial rfl
        | 1, ho =>
          simp only [List.getElem?_toArray, List.getElem?_cons_zero, List.getElem?_cons_succ, Option.some.injEq] at ho
          subst ho
          go_wp2
          exact hK _ _ rfl trivial rfl
        | 2, ho =>
          simp only [List.getElem?_toArray, List.getElem?_cons_zero, List.getElem?_cons_succ, Option.some.injEq] at ho
          subst ho
          have v1 := hV 1 (by kernel_rfl)
          simp only [List.getD_cons_zero, List.getD_cons_succ, pkV] at v1
          simp only [v1] at hK ⊢
          go_wp2
          exact hK _ _ rfl trivial rfl
        | 3, ho =>
          simp only [List.getElem?_toArray, List.getElem?_cons_zero, List.getElem?_cons_succ, Option.some.injEq] at ho
          subst ho
          have v2 := hV 2 (by kernel_rfl)
          simp only [List.getD_cons_zero, List.getD_cons_succ, pkV] at v2
          simp only [v2] at hK ⊢
          go_wp2
          exact hK _ _ rfl trivial rfl
        | 4, ho =>
          simp only [List.getElem?_toArray, List.getElem?_cons_zero, List.getElem?_cons_succ, Option.some.injEq] at ho
          subst ho
          have v3 := hV 3 (by kernel_rfl)
          simp only [List.getD_cons_zero, List.getD_cons_succ, pkV] at v3
          have hb := (hdep 16 (by simp)).1.ptr.1
          simp only [v3] at hK ⊢
          go_wp2
          exact hK _ _ rfl trivial rfl
        | 5, ho =>
          simp only [List.getElem?_toArray, List.getElem?_cons_zero, List.getElem?_cons_succ, Option.some.injEq] at ho
          subst ho
          go_wp2
          exact hK _ _ rfl trivial rfl
        | 6, ho =>
          simp only [List.getElem?_toArray, List.getElem?_cons_zero, List.getElem?_cons_succ, Option.some.injEq] at ho
          subst ho
          have v5 := hV 5 (by kernel_rfl)
          simp only [List.getD_cons_zero, List.getD_cons_succ, pkV] at v5
          simp only [v5] at hK ⊢
          go_wp2
          exact hK _ _ rfl trivial rfl
        | 7, ho =>
          simp only [List.getElem?_toArray, List.getElem?_cons_zero, List.getElem?_cons_succ, Option.some.injEq] at ho
          subst ho
          have v6 := hV 6 (by kernel_rfl)
          simp only [List.getD_cons_zero, List.getD_cons_succ, pkV] at v6
          simp only [v6] at hK ⊢
          go_wp2
          exact hK _ _ rfl trivial rfl
        | 8, ho =>
          simp only [List.getElem?_toArray, List.getElem?_cons_zero, List.getElem?_cons_succ, Option.some.injEq] at ho
          subst ho
          have v7 := hV 7 (by kernel_rfl)
          simp only [List.getD_cons_zero, List.getD_cons_succ, pkV] at v7
          have hb := (hdep 16 (by simp)).1.ptr.1
          simp only [v7] at hK ⊢
          go_wp2
          exact hK _ _ rfl trivial rfl
        | 9, ho =>
          simp only [List.getElem?_toArray, List.getElem?_cons_zero, List.getElem?_cons_succ, Option.some.injEq] at ho
          subst ho
          have v8 := hV 8 (by kernel_rfl)
          simp only [List.getD_cons_zero, List.getD_cons_succ, pkV] at v8
          simp only [v8] at hK ⊢
          have hb := (hdep 16 (by simp)).1
          go_wp2_with fail
          refine (next_any hb.ps).mono ?_
          rintro e W2 ⟨rfl, hk⟩
          exact hK _ _ rfl trivial hk
        | 10, ho =>
          simp only [List.getElem?_toArray, List.getElem?_cons_zero, List.getElem?_cons_succ, Option.some.injEq] at ho
          subst ho
          have v9 := hV 9 (by kernel_rfl)
          simp only [List.getD_cons_zero, List.getD_cons_succ, pkV] at v9
          simp only [v9] at hK ⊢
          unfold wV at hK ⊢
          have hf := fld1 (hdW l2).k (hdW l2).p (hdW l2).t (hdW l2).n W
          go_wp2
          exact hK _ _ rfl trivial rfl
        | 11, ho =>
          simp only [List.getElem?_toArray, List.getElem?_cons_zero, List.getElem?_cons_succ, Option.some.injEq] at ho
          subst ho
          have v4 := hV 4 (by kernel_rfl)
          simp only [List.getD_cons_zero, List.getD_cons_succ, pkV] at v4
          have v10 := hV 10 (by kernel_rfl)
          simp only [List.getD_cons_zero, List.getD_cons_succ, pkV] at v10
          simp only [v4, v10] at hK ⊢
          obtain ⟨hb, hkb⟩ := hdep 16 (by simp)
          go_wp2_with fail
          refine (full_any hb.ps W.heap.size (Nat.le_refl _) hb.ps.lt hb.ps.gb.lt (.slice none 0 0) [] (Own.nil _ _) (by decide) (hdW l2).p).mono ?_
          intro e W2 hq
          cases hr : fullP kNone (hdW l2).p l2 with
          | no p c =>
            rw [show fullP (⟨[].toArray⟩ : ByteArray) (hdW l2).p l2 = .no p c from hr] at hq
            obtain ⟨rfl, hk⟩ := hq
            refine ⟨rfl, ?_⟩
            rw [HR3.out, hr]
            exact ⟨rfl, Kp.kd (hkb.trans hk.kb)⟩
          | ok s l' =>
            rw [show fullP (⟨[].toArray⟩ : ByteArray) (hdW l2).p l2 = .ok s l' from hr] at hq
            obtain ⟨v, rfl, rfl, hp2, hk⟩ := hq
            exact hK _ _ ⟨s, rfl⟩ ⟨s, l', hr, rfl, hb.next hp2 hk.kb, Kp.kd (hkb.trans hk.kb)⟩ trivial
        | 12, ho =>
          simp only [List.getElem?_toArray, List.getElem?_cons_zero, List.getElem?_cons_succ, Option.some.injEq] at ho
          subst ho
          have v0 := hV 0 (by kernel_rfl)
          simp only [List.getD_cons_zero, List.getD_cons_succ, pkV] at v0
          simp only [v0] at hK ⊢
          go_wp2
          exact hK _ _ rfl trivial rfl
        | 13, ho =>
          simp only [List.getElem?_toArray, List.getElem?_cons_zero, List.getElem?_cons_succ, Option.some.injEq] at ho
          subst ho
          have v12 := hV 12 (by kernel_rfl)
          simp only [List.getD_cons_zero, List.getD_cons_succ, pkV] at v12
          simp only [v12] at hK ⊢
          go_wp2
          exact hK _ _ rfl trivial rfl
        | 14, ho =>
          simp only [List.getElem?_toArray, List.getElem?_cons_zero, List.getElem?_cons_succ, Option.some.injEq] at ho
          subst ho
          have v13 := hV 13 (by kernel_rfl)
          simp only [List.getD_cons_zero, List.getD_cons_succ, pkV] at v13
          simp only [v13] at hK ⊢
          go_wp2
          exact hK _ _ rfl trivial rfl
        | 15, ho =>
          simp only [List.getElem?_toArray, List.getElem?_cons_zero, List.getElem?_cons_succ, Option.some.injEq] at ho
          subst ho
          have v11 := hV 11 (by kernel_rfl)
          have v14 := hV 14 (by kernel_rfl)
          simp only [List.getD_cons_zero, List.getD_cons_succ, pkV] at v14
          obtain ⟨s, l', h1, h2, h3, h4⟩ := hdep 11 (by simp)
          simp only [List.getD_cons_zero, List.getD_cons_succ, List.getElem?_cons_zero, List.getElem?_cons_succ, Option.getD_some] at h2
          have hc : W.cell? ⟨be, 1, none⟩ = some (.string x.pkg) := h3.blk.cell 1
          have hf : W.frozen? ⟨be, 1, none⟩ = false := h3.blk.frozen 1
          simp only [v14, h2] at hK ⊢
          go_wp2
          exact hK undef _ trivial ⟨s, l', h1, ⟨h3.ps.far (by have := h3.lb; show be ≠ b; omega) (by have := h3.lg; show be ≠ g; omega) _, Blk.set_ h3.blk 1 _, h3.rows.setCell h3.lB _, h3.lb, h3.lg, h3.lB, by simpa using h3.sz⟩, h4.setCell (fun _ => .inr (.inl rfl)) _⟩ trivial
        | k + 16, ho => simp at ho
      case skip =>
        intro i o g b ho hg
        rw [no_guard (by kernel_rfl) ho] at hg
        cases hg
      case done =>
        intro u W hV hP
        obtain ⟨s, l', h1, h2, h3⟩ := hP 15 (by decide) (by decide)
        simp only [over, List.foldl_cons, List.foldl_nil, List.setIfInBounds_toArray, List.set_cons_zero, List.set_cons_succ, List.set_nil, List.getD_cons_zero, List.getD_cons_succ, Array.getD_eq_getD_getElem?, List.getElem?_toArray]
        go_wp2_with fail
        go_meet
        exact ⟨s, l', h1, h2, h3⟩
    case rest =>
      obtain ⟨s, l3, h1, h2, h3⟩ := hcut
      have hR4 := HR3.out
      rw [h1] at hR4
      simp only [Pz.and] at hR4
      have HR4 := Lib.hid hR4
      have HE3 := Lib.hid h2
      have HK3 := Lib.hid h3
      obtain ⟨d0, hlt⟩ := h2.ptr
      have hq : ∀ o, (wc.alloc o).cell? ⟨be, 0, none⟩ = some (.pointer (some ⟨b, 0, none⟩)) := fun o => (h2.alloc o).blk.cell 0
      have HX := Lib.hid (exp_at [kSemi] #[.string kSemi] 1 rfl rfl (by decide) (by decide) h2.ps)
      clear h1 h2 h3 HR3 hR4 HE2 HK2
      go_wp2_with fail
      refine HX.out.mono ?_
      intro e w5 hq
      cases hr : expP [kSemi] l3 with
      | no p c =>
        rw [hr] at hq
        obtain ⟨rfl, hk⟩ := hq
        have HK5 := Lib.hid (HK3.out.trans (Kp.kd hk))
        have HR5 := Lib.hid (show R = .no p c by rw [HR4.out, hr]; first | rfl | skip)
        clear hk hr HR4 HX
        unfold Stp stopV
        go_wp2_with fail
        rw [HR5.out]
        exact ⟨rfl, rfl, HK5.out⟩
      | ok u l5 =>
        rw [hr] at hq
        obtain ⟨v, rfl, rfl, hp, hk⟩ := hq
        have HR5 := Lib.hid (show R = .ok { x with pkg := s } l5 by rw [HR4.out, hr]; first | rfl | skip)
        have HE5 := Lib.hid (HE3.out.next hp hk)
        have HK5 := Lib.hid (HK3.out.trans (Kp.kd hk))
        clear hk hr HR4 HX hp HE3 HK3
        go_wp2_with fail
        rw [HR5.out]
        go_end0
        exact ⟨_, rfl, rfl, ⟨V, C, HE5.out⟩, HK5.out⟩
  · have HR2 := Lib.hid (show R = .no (hdW l).p 40 by rw [HR.out, if_pos hpk]; rfl)
    have hpk2 : x.pkg.toList.isEmpty = false := by
      cases hq : x.pkg.toList.isEmpty with
      | false => rfl
      | true =>
        refine absurd ?_ hpk
        have h1 : x.pkg.toList = [] := List.isEmpty_iff.1 hq
        rw [Lib.toList_data] at h1
        have key : ∀ z : ByteArray, z.data.toList = [] → z = kNone := by
          rintro ⟨⟨q⟩⟩ h
          exact congrArg (fun z => (⟨⟨z⟩⟩ : ByteArray)) h
        exact key _ h1
    have HO := Lib.hid (refuse_any H.out.ps)
    clear HR hpk
    go_enter Tryz.func148, Tryz.ntmps148
    go_wp2_with fail
    refine HO.out.mono ?_
    rintro e w2 ⟨rfl, hk⟩
    have HK2 := Lib.hid hk
    clear hk HO
    unfold Stp stopV
    go_wp2_with fail
    rw [HR2.out]
    exact ⟨rfl, rfl, Kn.kd HK2.out⟩
end
end Go.Proofs.YthmdaejlopjjoaaGreatDoor
