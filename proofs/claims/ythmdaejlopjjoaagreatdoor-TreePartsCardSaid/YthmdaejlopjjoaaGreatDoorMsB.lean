/-
  tree: a choice.
  tree: an element of a oneof.
  tree: a oneof.
  tree: an enum of a message.
-/
import Derived.Test.YthmdaejlopjjoaaGreatDoorMsA
namespace Go.Proofs.YthmdaejlopjjoaaGreatDoor
section
open Go.RowKit
set_option linter.unusedVariables false
set_option linter.unusedSimpArgs false

section
variable {w : World} {b g : Nat} {cur : Array Value} {l : List Wd}
set_option maxRecDepth 100000 in
set_option maxHeartbeats 2000000 in
theorem choice_p {be B deep : Nat} {x : Ms} {V : MV} {C : List Nat} (h : Mg w b g cur be B deep x V C l) (P : Nat → Prop) (hP : ∀ k, k ∈ owns (mrows x V) ∨ w.heap.size ≤ k → P k) :
    Calls Tryz.prog 247 #[.pointer (some ⟨be, 0, none⟩)] w (PzQ (roomP x.flds.length 64 l (addF x (typedP 2 ((x.onos.length : Int) - 1) l))) (Kq b be P w) (MgP w b g cur be B deep P)) := by
  obtain ⟨R, hR⟩ : ∃ R, R = roomP x.flds.length 64 l (addF x (typedP 2 ((x.onos.length : Int) - 1) l)) := ⟨_, rfl⟩
  rw [← hR]
  unfold roomP at hR
  have HR := Lib.hid hR
  have H := Lib.hid h
  have HM := Lib.hid (roomFF_any h)
  obtain ⟨A2, c2, hv2, hc1, hc2⟩ := h.rows.val (j := 1) rfl
  simp only at hv2 hc1
  have hV2 := Lib.hid hv2
  have e1 : IntKind.i64.wrap ((x.onos.length : Int) - 1) = (x.onos.length : Int) - 1 := IntWalk.i64_in _ (by omega)
  have HP := Lib.hid fun (W : World) (hW : Kb b w W) k (hk : k ∈ owns (mrows x V) ∨ W.heap.size ≤ k) => hP k (hk.imp id (Nat.le_trans hW.size))
  clear h hR hv2 hP
  go_enter Tryz.func247, Tryz.ntmps247
  go_wp2_with fail
  refine HM.out.mono ?_
  rintro e w1 ⟨h1, hk1⟩
  have HK1 := Lib.hid hk1
  have HE1 := Lib.hid (H.out.kn hk1)
  clear hk1 HM
  rcases h1 with ⟨hge, rfl⟩ | ⟨hlt4, rfl⟩
  · have HR2 := Lib.hid (show R = .no (hdW l).p 5 by rw [HR.out, if_pos hge])
    clear hge HR
    unfold Stp stopV
    go_wp2_with fail
    rw [HR2.out]
    exact ⟨rfl, rfl, Kn.kq HK1.out⟩
  · have hR2 := HR.out
    rw [if_neg hlt4] at hR2
    have hal : x.flds.length ≤ 1000000 := by omega
    have HR2 := Lib.hid hR2
    clear HR hR2 hlt4
    have HK2 := Lib.hid (Kn.kb HK1.out b)
    have HC := Lib.hid (typed_p HE1.out 2 ((x.onos.length : Int) - 1) hal P (HP.out _ HK2.out))
    rw [← HR2.out] at HC
    obtain ⟨d0, hlt1⟩ := HE1.out.ptr
    have d4 : w1.cell? ⟨be, 4, none⟩ = some (.slice A2 x.onos.length c2) := by rw [← hV2.out]; exact HE1.out.blk.cell 4
    clear HR2 HE1 HK1
    go_wp2_with fail
    refine HC.out.mono ?_
    intro e w3 hq
    clear HC d0 d4
    cases R with
    | no p c =>
      obtain ⟨rfl, hk⟩ := hq
      have HKn := Lib.hid ((Kp.kq HK2.out : Kq b be P w _).trans hk)
      clear hk HK2
      unfold Stp stopV
      go_wp2_with fail
      exact ⟨rfl, rfl, HKn.out⟩
    | ok x' l' =>
      obtain ⟨v, rfl, rfl, hE, hk⟩ := hq
      have HKn := Lib.hid ((Kp.kq HK2.out : Kq b be P w _).trans hk)
      have HE := Lib.hid hE
      clear hk hE HK2
      go_wp2_with fail
      go_end0
      exact ⟨_, rfl, rfl, HE.out, HKn.out⟩
end
end
section
open Go.RowKit
set_option linter.unusedVariables false
set_option linter.unusedSimpArgs false

theorem nameP_lt {l l' : List Wd} {s : ByteArray} (h : nameP l = .ok s l') : l'.length ≤ l.tail.length := by
  have hd : ∀ (n : Nat) {b b' : ByteArray} {m m' : List Wd}, dotsF n b m = .ok b' m' → m'.length ≤ m.length := by
    intro n
    induction n with
    | zero => intro b b' m m' h; cases h
    | succ n ih =>
      intro b b' m m' h
      rw [dotsF] at h
      split at h
      · obtain ⟨w, l1, h1, h2⟩ := Pz.and_ok h
        have e := (ofP_len h1).2
        subst e
        have := ih h2; have := tail_le m; have := tail_le m.tail; omega
      · injection h with _ h; rw [h]; exact Nat.le_refl _
  have hf : ∀ {st : ByteArray} {at_ : Nat} {m m' : List Wd} {b : ByteArray}, fullP st at_ m = .ok b m' → m'.length ≤ m.tail.length := by
    intro st at_ m m' b h
    unfold fullP at h
    obtain ⟨w, l1, h1, k1⟩ := Pz.and_ok h
    obtain ⟨b2, l2, h2, k2⟩ := Pz.and_ok k1
    have e := (ofP_len h1).2
    subst e
    have := hd _ h2
    split at k2
    · cases k2
    · injection k2 with _ k3; subst k3; omega
  unfold nameP at h
  split at h
  · have := hf h; have := tail_le l.tail; omega
  · exact hf h
theorem namedP_len {f f' : Fd} {l l' : List Wd} (h : namedP f l = .ok f' l') : l'.length ≤ l.length := by
  unfold namedP at h
  obtain ⟨w, l1, h1, k1⟩ := Pz.and_ok h
  obtain ⟨u, l2, h2, k2⟩ := Pz.and_ok k1
  obtain ⟨n, l3, h3, k3⟩ := Pz.and_ok k2
  obtain ⟨j, l4, h4, k4⟩ := Pz.and_ok k3
  obtain ⟨u5, l5, h5, k5⟩ := Pz.and_ok k4
  injection k5 with _ k6
  subst k6
  have e1 := (ofP_len h1).2
  have e3 := (ofP_len h3).2
  subst e1 e3
  have := expP_len _ h2; have := expP_len _ h5; have := tail_le l; have := tail_le l2
  split at h4
  · obtain ⟨u6, l6, h6, k6⟩ := Pz.and_ok h4
    obtain ⟨j7, l7, h7, k7⟩ := Pz.and_ok k6
    obtain ⟨u8, l8, h8, k8⟩ := Pz.and_ok k7
    injection k8 with _ k9
    subst k9
    have e7 := (ofP_len h7).2
    subst e7
    have := expP_len _ h6; have := expP_len _ h8; have := tail_le l2.tail; have := tail_le l6; omega
  · injection h4 with _ h4
    subst h4
    omega
theorem typedP_len {card oneof : Int} {f' : Fd} {l l' : List Wd} (h : typedP card oneof l = .ok f' l') : l'.length ≤ l.tail.length := by
  unfold typedP at h
  obtain ⟨s, l1, h1, k1⟩ := Pz.and_ok h
  have := nameP_lt h1; have := namedP_len k1; omega
theorem mapP_len {f' : Fd} {l l' : List Wd} (h : mapP l = .ok f' l') : l'.length ≤ l.length := by
  unfold mapP at h
  obtain ⟨u, l1, h1, k1⟩ := Pz.and_ok h
  obtain ⟨s, l2, h2, k2⟩ := Pz.and_ok k1
  obtain ⟨u3, l3, h3, k3⟩ := Pz.and_ok k2
  obtain ⟨s4, l4, h4, k4⟩ := Pz.and_ok k3
  obtain ⟨u5, l5, h5, k5⟩ := Pz.and_ok k4
  have := expP_len _ h1; have := nameP_len h2; have := expP_len _ h3; have := nameP_len h4; have := expP_len _ h5; have := namedP_len k5; omega
theorem addF_ok {m m' : Ms} {r : Pz Fd} {l' : List Wd} (h : addF m r = .ok m' l') : ∃ f, r = .ok f l' := by
  unfold addF at h
  obtain ⟨f, l1, h1, k1⟩ := Pz.and_ok h
  injection k1 with _ k2
  subst k2
  exact ⟨f, h1⟩
theorem onS_len {x x' : Ms} {l l' : List Wd} (hl : Gd l) (h : onS x l = .ok x' l') : l'.length < l.length := by
  have hn := hl.len
  unfold onS at h
  split at h
  · injection h with _ h; rw [← h]; omega
  · split at h
    · cases h
    · obtain ⟨f, h1⟩ := addF_ok (roomP_ok h)
      have := typedP_len h1; omega
/-- A message in a oneof of which its fields are read, beside the map of its elements. -/
def OnI (b g : Nat) (cur : Array Value) (be B deep mb : Nat) (P : Nat → Prop) (xs : List (ByteArray × Value)) (W : World) (x : Ms) (l : List Wd) : Prop := (∃ V C, Mg W b g cur be B deep x V C l ∧ ∀ k, k ∈ owns (mrows x V) ∨ W.heap.size ≤ k → P k) ∧ MapS W mb xs
def onKey (b : Nat) : List (ByteArray × Value) := [(kSemi, .func (.func 147) #[.pointer (some ⟨b, 0, none⟩)] #[]), (kOption, .func (.func 103) #[.pointer (some ⟨b, 0, none⟩)] #[]), (kOpt, .func (.func 103) #[.pointer (some ⟨b, 0, none⟩)] #[]), (kRep, .func (.func 103) #[.pointer (some ⟨b, 0, none⟩)] #[]), (kMap, .func (.func 103) #[.pointer (some ⟨b, 0, none⟩)] #[]), (kGrp, .func (.func 103) #[.pointer (some ⟨b, 0, none⟩)] #[])]
section
variable {w : World} {b g : Nat} {cur : Array Value} {l : List Wd}
theorem onElement_any {be B deep mb : Nat} {P : Nat → Prop} {xs : List (ByteArray × Value)} (hx : ∀ z, lookS xs z = lookS (onKey b) z) (hmb : mb ≠ b ∧ mb ≠ be ∧ ¬ P mb) {x : Ms} (h : OnI b g cur be B deep mb P xs w x l) :
    Calls Tryz.prog 102 #[.pointer (some ⟨b, 0, none⟩), .map (some mb), .func (.func 247) #[.pointer (some ⟨be, 0, none⟩)] #[]] w
    (PzQ (onS x l) (Kq b be P w) fun x' l' v w' => v = .tuple #[] ∧ OnI b g cur be B deep mb P xs w' x' l' ∧ Kq b be P w w' ∧ l'.length < l.length) := by
  obtain ⟨⟨V, C, hes, hP⟩, hm⟩ := h
  have hgd := hes.ps.gd
  have hmk : ∀ W', Kq b be P w W' → MapS W' mb xs := fun W' hk => hm.kn hk (by rintro (e | e | e); exact hmb.1 e; exact hmb.2.1 e; exact hmb.2.2 e)
  by_cases h1 : sayW l = kSemi
  · have e : onS x l = .ok x l.tail := by unfold onS; rw [if_pos h1]
    rw [e]
    have hlk : lookS xs (sayW l) = some (.func (.func 147) #[.pointer (some ⟨b, 0, none⟩)] #[]) := by rw [hx, h1]; rfl
    refine (element_known (T := fun w' => OnI b g cur be B deep mb P xs w' x l.tail ∧ Kq b be P w w') (N := fun _ _ _ => False) hes.ps hm 147 _ _ hlk (by decide) fun W hk => ?_).mono ?_
    · refine (empty_any (hes.ps.kn hk) h1).mono ?_
      rintro e w' ⟨rfl, hp, hk'⟩
      have hkb : Kb b w w' := (Kn.kb hk b).trans hk'
      exact .inl ⟨rfl, ⟨⟨V, C, hes.next hp hkb, fun k hk => hP k (hk.imp id (Nat.le_trans hkb.size))⟩, hmk _ (Kp.kq hkb)⟩, Kp.kq hkb⟩
    · rintro e w' (⟨rfl, h2, h3⟩ | ⟨p, c, _, h⟩)
      · exact ⟨_, rfl, rfl, h2, h3, by have := hgd.len; omega⟩
      · exact h.elim
  by_cases h2 : sayW l = kOption ∨ sayW l = kOpt ∨ sayW l = kRep ∨ sayW l = kMap ∨ sayW l = kGrp
  · have e : onS x l = refuse l := by unfold onS; rw [if_neg h1, if_pos h2]
    rw [e]
    have hlk : lookS xs (sayW l) = some (.func (.func 103) #[.pointer (some ⟨b, 0, none⟩)] #[]) := by
      rw [hx]
      rcases h2 with h | h | h | h | h <;> (rw [h]; rfl)
    refine (element_known (T := fun w' => False) (N := fun p' c' w' => p' = (hdW l).p ∧ c' = 40 ∧ Kq b be P w w') hes.ps hm 103 _ _ hlk (by decide) fun W hk => ?_).mono ?_
    · refine (refuse_any (hes.ps.kn hk)).mono ?_
      rintro e w' ⟨rfl, hk'⟩
      exact .inr ⟨_, _, rfl, rfl, rfl, Kn.kq (hk.trans hk')⟩
    · rintro e w' (⟨_, h⟩ | ⟨p', c', rfl, rfl, rfl, h⟩)
      · exact h.elim
      · exact ⟨rfl, h⟩
  · have e : onS x l = roomP x.flds.length 64 l (addF x (typedP 2 ((x.onos.length : Int) - 1) l)) := by unfold onS; rw [if_neg h1, if_neg h2]
    rw [e]
    simp only [not_or] at h2
    have hlk : lookS xs (sayW l) = none := by rw [hx]; simp [onKey, lookS, h1, h2.1, h2.2.1, h2.2.2.1, h2.2.2.2.1, h2.2.2.2.2]
    cases hr : roomP x.flds.length 64 l (addF x (typedP 2 ((x.onos.length : Int) - 1) l)) with
    | no p c =>
      refine (element_other (T := fun w' => False) (N := fun p' c' w' => p' = p ∧ c' = c ∧ Kq b be P w w') hes.ps hm 247 _ hlk (by decide) fun W hk => ?_).mono ?_
      · have := choice_p (hes.kn hk) P (fun k hk' => hP k (hk'.imp id (Nat.le_trans hk.size)))
        rw [hr] at this
        refine this.mono ?_
        rintro e w' ⟨rfl, hk'⟩
        exact .inr ⟨p, c, rfl, rfl, rfl, (Kn.kq hk).trans hk'⟩
      · rintro e w' (⟨_, h⟩ | ⟨p', c', rfl, rfl, rfl, h⟩)
        · exact h.elim
        · exact ⟨rfl, h⟩
    | ok x' l' =>
      refine (element_other (T := fun w' => OnI b g cur be B deep mb P xs w' x' l' ∧ Kq b be P w w') (N := fun p' c' w' => False) hes.ps hm 247 _ hlk (by decide) fun W hk => ?_).mono ?_
      · have := choice_p (hes.kn hk) P (fun k hk' => hP k (hk'.imp id (Nat.le_trans hk.size)))
        rw [hr] at this
        refine this.mono ?_
        rintro e w' ⟨v, rfl, rfl, hE, hk'⟩
        exact .inl ⟨rfl, ⟨hE, hmk _ ((Kn.kq hk).trans hk')⟩, (Kn.kq hk).trans hk'⟩
      · rintro e w' (⟨rfl, h3, h4⟩ | ⟨p', c', _, h⟩)
        · exact ⟨_, rfl, rfl, h3, h4, onS_len (x := x) (x' := x') hgd (e.trans hr)⟩
        · exact h.elim
end
end
section
open Go.RowKit
set_option linter.unusedVariables false
set_option linter.unusedSimpArgs false

section
variable {w : World} {b g : Nat} {cur : Array Value} {l : List Wd}
set_option maxRecDepth 100000 in
set_option maxHeartbeats 4000000 in
theorem oneof_any {be B deep : Nat} {x : Ms} {V : MV} {C : List Nat} (h : Mg w b g cur be B deep x V C l) (hk0 : (hdW l).k ≠ 0) :
    Calls Tryz.prog 225 #[.pointer (some ⟨be, 0, none⟩)] w (PzQ (onP x l) (Kd b be B w) (MgK w b g cur be B deep)) := by
  obtain ⟨i0, hi0, hz0, hz1, hz2⟩ := info_parts Tryz.info99
  rcases V with ⟨vf, vo, vm, ve, vr, vn⟩
  obtain ⟨R, hR⟩ : ∃ R, R = onP x l := ⟨_, rfl⟩
  rw [← hR]
  unfold onP roomP at hR
  have HR := Lib.hid hR
  have HM := Lib.hid (room_any h.drew.ps x.onos.length 16)
  obtain ⟨A1, c1, hv1, -, -⟩ := h.rows.val (j := 1) rfl
  simp only at hv1
  subst hv1
  have H := Lib.hid h
  obtain ⟨d0, hlt⟩ := h.ptr
  have d4 : w.cell? ⟨be, 4, none⟩ = some (.slice A1 x.onos.length c1) := h.blk.cell 4
  clear h hR
  go_enter Tryz.func225, Tryz.ntmps225
  go_wp2_with fail
  go_still_tail 10, (by kernel_rfl)
  change wpList _ _ _ _ _ w.drew
  go_wp2_with fail
  refine HM.out.mono ?_
  rintro e w1 ⟨h1, hk1⟩
  have HK1 := Lib.hid (show Kn w w1 from (Kp.refl _ w).drew.trans hk1)
  have HE1 := Lib.hid (H.out.drew.kn hk1)
  clear hk1 d0 d4
  rcases h1 with ⟨hge, rfl⟩ | ⟨hlt4, rfl⟩
  · have HR2 := Lib.hid (show R = .no (hdW l).p 5 by rw [HR.out, if_pos hge])
    clear HM hge HR
    unfold Stp stopV
    go_wp2_with fail
    rw [HR2.out]
    exact ⟨rfl, rfl, Kn.kd HK1.out⟩
  · have hR2 := HR.out
    rw [if_neg hlt4] at hR2
    have HR2 := Lib.hid hR2
    have hal : x.onos.length ≤ 1000000 := by omega
    obtain ⟨d0, elt⟩ := HE1.out.ptr
    have HO := Lib.hid (pass_any HE1.out.ps hk0)
    clear HR hR2 hlt4 HM
    go_wp2_with fail
    refine HO.out.mono ?_
    rintro e w2 ⟨rfl, hp, hk⟩
    have HE2 := Lib.hid (HE1.out.next hp hk)
    have HK2 := Lib.hid ((Kn.kb HK1.out b).trans hk)
    clear HO hp hk HE1 d0
    obtain ⟨d0, dlt⟩ := HE2.out.ptr
    have HO := Lib.hid (of_any HE2.out.ps 1 (by decide))
    unfold wV
    go_wp2_with fail
    refine HO.out.mono ?_
    intro e w3 hq
    clear d0
    cases hr : ofP 1 l.tail with
    | no p c =>
      rw [hr] at hq
      obtain ⟨rfl, hk⟩ := hq
      have HK3 := Lib.hid (HK2.out.trans hk)
      have HR3 := Lib.hid (show R = .no p c by rw [HR2.out, hr]; rfl)
      clear hk hr HR2 HO
      unfold Stp stopV
      go_wp2_with fail
      rw [HR3.out]
      exact ⟨rfl, rfl, Kp.kd HK3.out⟩
    | ok y l3 =>
      rw [hr] at hq
      obtain ⟨v, rfl, rfl, rfl, rfl, hp, hk⟩ := hq
      have hR3 := HR2.out
      rw [hr] at hR3
      simp only [Pz.and] at hR3
      have HR3 := Lib.hid hR3
      have HE3 := Lib.hid ((HE2.out.next hp hk).alloc (.cells #[.int .i64 (hdW l.tail).k, .int .i64 (hdW l.tail).p, .string (hdW l.tail).t, .int .i64 (hdW l.tail).n] 73))
      have HY := Lib.hid (Blk.new w3 73 #[.int .i64 (hdW l.tail).k, .int .i64 (hdW l.tail).p, .string (hdW l.tail).t, .int .i64 (hdW l.tail).n])
      have HK3 := Lib.hid ((HK2.out.trans hk).alloc (.cells #[.int .i64 (hdW l.tail).k, .int .i64 (hdW l.tail).p, .string (hdW l.tail).t, .int .i64 (hdW l.tail).n] 73))
      generalize hdW l.tail = y at *
      clear hk hr HR2 HO hp hR3 HE2 HK2 HK1 dlt elt
      unfold wV
      go_wp2_with fail
      generalize World.alloc w3 _ = wy at *
      generalize w3.heap.size = p1 at *
      obtain ⟨-, yc1, yc2, -, -, -, -, -⟩ := HY.out.four_
      obtain ⟨d0, hlt3⟩ := HE3.out.ptr
      have d4 : wy.cell? ⟨be, 4, none⟩ = some (.slice A1 x.onos.length c1) := HE3.out.blk.cell 4
      have y4 : wy.frozen? ⟨be, 4, none⟩ = false := HE3.out.blk.frozen 4
      have HBZ := Lib.hid (show B ≤ (wy.drew.alloc (.cells #[.string y.t, .int .i64 y.p] 99)).heap.size by rw [World.size_alloc]; show _ ≤ wy.heap.size + 1; have := HE3.out.sz; omega)
      go_cut [] (fun wx => ∃ (A6 : Option Addr) (c6 : Nat), Mg wx b g cur be B deep { x with onos := x.onos ++ [⟨y.t, y.p⟩] } ⟨vf, .slice A6 (x.onos.length + 1) c6, vm, ve, vr, vn⟩ C l.tail.tail ∧ Kd b be B w wx)
      case first =>
        go_region_law (first
          | (refine step_append_rows _ (by rfl) _ _ 46 (by rfl) (HE3.out.drew.alloc (.cells #[.string y.t, .int .i64 y.p] 99)).rows 1 (rwTx x.onos (.slice A1 x.onos.length c1)) (by rfl) i0 _ 24 Tryz.underlying46 hi0 hz0 hz1 hz2 (by rfl) (Nat.succ_pos 1) (by rfl) wy.heap.size (by rfl) _ (Tx.dv ⟨y.t, y.p⟩) (Blk.new wy.drew 99 _) (by rfl) (Tx.mem _ B ⟨y.t, y.p⟩) (by intro q hq; cases hq) hal (by decide) HBZ.out ?_; intro v6 wf ho6 hg6 hv6; have HO6 := Lib.hid ho6; have HG6 := Lib.hid hg6; have HB6 := Lib.hid (Blk.kp (HE3.out.drew.alloc (.cells #[.string y.t, .int .i64 y.p] 99)).blk (Kp.of_grown hg6) (fun e => by have := ((HE3.out.drew.alloc (.cells #[.string y.t, .int .i64 y.p] 99)).rows.own_mem (j := 1) rfl e.symm).2.1; have := HE3.out.lB; omega)); obtain ⟨A6, c6, e6, -, -⟩ := ho6.val (j := 1) rfl; simp only at e6; subst e6; have f3' : wf.frozen? ⟨be, 4, none⟩ = false := HB6.out.frozen 4; have q3' : wf.cell? ⟨be, 4, none⟩ = some (.slice A1 x.onos.length c1) := HB6.out.cell 4; clear ho6 hg6 hv6))
        all_goals
          go_wp2_with fail
          go_meet
          have hne : be ≠ b := by have := HE3.out.lb; omega
          have hng : be ≠ g := by have := HE3.out.lg; omega
          have hown : ∀ i, (Value.slice A1 x.onos.length c1).ownBlock = some i → B ≤ i := fun i hi => (HE3.out.rows.own_mem (j := 1) rfl hi).2.1
          have h6 := HO6.out
          rw [List.append_nil, rwTx_snoc x.onos ⟨y.t, y.p⟩ (.slice none 0 0) _] at h6
          have hp6 : Ps wf b g cur l.tail.tail := (HE3.out.drew.alloc _).ps.kp (Kp.of_grown HG6.out) (fun e => by have := hown b e.symm; have := HE3.out.lb; have := HE3.out.lB; omega) (fun e => by have := hown g e.symm; have := HE3.out.lg; have := HE3.out.lB; omega)
          have hk6 : Kd b be B w wf := (Kp.kd (HK3.out.drew.alloc (.cells #[.string y.t, .int .i64 y.p] 99)) : Kd b be B w _).grown HG6.out fun i hi _ => .inr (.inr (hown i hi))
          refine ⟨A6, c6, ⟨hp6.far hne hng _, ?_, ?_, HE3.out.lb, HE3.out.lg, HE3.out.lB, by simpa using Nat.le_trans HE3.out.sz (Nat.le_trans (Nat.le_trans (Nat.le_succ _) (Nat.le_of_eq (World.size_alloc wy (.cells #[.string y.t, .int .i64 y.p] 99)).symm)) HG6.out.size)⟩, hk6.setCell (fun _ => .inr (.inl rfl)) _⟩
          · exact HB6.out.set_ 4 _
          · exact Rows_.setCell h6 HE3.out.lB _
      case rest =>
        obtain ⟨A6, c6, he, hk⟩ := hcut
        have HE4 := Lib.hid he
        have HK4 := Lib.hid hk
        clear he hk HE3 HK3 HY HBZ yc1 yc2 d0 d4 y4
        obtain ⟨d0, hlt4⟩ := HE4.out.ptr
        go_wp2_with fail
        have hS0 : (fun W : World => W.cell? ⟨be, 0, none⟩ = some (.pointer (some ⟨b, 0, none⟩))) { wc with drawn := wc.drawn + 1 } := HE4.out.blk.cell 0
        have hS1 : (fun W : World => W.cell? ⟨be, 0, none⟩ = some (.pointer (some ⟨b, 0, none⟩))) (World.alloc { wc with drawn := wc.drawn + 1 } (.map #[] 0)) := ((HE4.out.drew).alloc (.map #[] 0)).blk.cell 0
        have hbez : be < wc.heap.size := HE4.out.blk.lt
        have hSk : ∀ W W' : World, W.grownBy W' (some ({ wc with drawn := wc.drawn + 1 } : World).heap.size) → (fun W : World => W.cell? ⟨be, 0, none⟩ = some (.pointer (some ⟨b, 0, none⟩))) W → (fun W : World => W.cell? ⟨be, 0, none⟩ = some (.pointer (some ⟨b, 0, none⟩))) W' :=
          fun W W' hg hw => World.grownBy.cell hg hw (by intro e; injection e with e; have : be = wc.heap.size := e; omega)
        clear d0
        refine wp_region_held (S := fun W => W.cell? ⟨be, 0, none⟩ = some (.pointer (some ⟨b, 0, none⟩))) (by kernel_rfl) ?_
        refine wpAnyH_take (i := 0) (oi := { dst := some 40, op := Op.move (Operand.tmp 0), type := 234, pos := "message.go:52", after := #[], guard := none }) (v := .pointer (some ⟨be, 0, none⟩)) rfl (by kernel_rfl) (by kernel_rfl) (by kernel_rfl) (fun _ _ _ h => h) (.inl ⟨rfl, fun _ _ => rfl⟩) hS0 ?_
        simp only [Act.put, List.setIfInBounds_toArray, List.set_cons_zero, List.set_cons_succ]
        refine wpAnyH_take (i := 1) (oi := { dst := some 41, op := Op.nilCheck (Operand.tmp 40), type := 0, pos := "message.go:52", after := #[{ on := 0, ground := Ground.data }], guard := none }) (v := .pointer (some ⟨be, 0, none⟩)) rfl (by kernel_rfl) (by kernel_rfl) (by kernel_rfl) (fun _ _ _ h => h) (.inl ⟨rfl, fun _ _ => rfl⟩) hS0 ?_
        simp only [Act.put, List.setIfInBounds_toArray, List.set_cons_zero, List.set_cons_succ]
        refine wpAnyH_take (i := 2) (oi := { dst := some 42, op := Op.fieldAddr 236 (Operand.tmp 41) 0, type := 0, pos := "message.go:52", after := #[{ on := 1, ground := Ground.data }], guard := none }) (v := .pointer (some ⟨be, 0, none⟩)) rfl (by kernel_rfl) (by kernel_rfl) (by kernel_rfl) (fun _ _ _ h => h) (.inl ⟨rfl, fun _ _ => by go_simp⟩) hS0 ?_
        simp only [Act.put, List.setIfInBounds_toArray, List.set_cons_zero, List.set_cons_succ]
        refine wpAnyH_take (i := 3) (oi := { dst := some 43, op := Op.load 104 (Operand.tmp 42), type := 104, pos := "message.go:52", after := #[{ on := 2, ground := Ground.data }], guard := none }) (v := .pointer (some ⟨b, 0, none⟩)) rfl (by kernel_rfl) (by kernel_rfl) (by kernel_rfl) (fun _ _ _ h => h) (.inl ⟨rfl, fun W hW => by have hW2 : W.cell? ⟨be, 0, none⟩ = some (.pointer (some ⟨b, 0, none⟩)) := hW; simp [execOp, go_sem, Act.eval, hW2]⟩) hS0 ?_
        simp only [Act.put, List.setIfInBounds_toArray, List.set_cons_zero, List.set_cons_succ]
        refine wpAnyH_take (i := 5) (oi := { dst := some 45, op := Op.move (Operand.tmp 0), type := 234, pos := "message.go:52", after := #[], guard := none }) (v := .pointer (some ⟨be, 0, none⟩)) rfl (by kernel_rfl) (by kernel_rfl) (by kernel_rfl) (fun _ _ _ h => h) (.inl ⟨rfl, fun _ _ => rfl⟩) hS0 ?_
        simp only [Act.put, List.setIfInBounds_toArray, List.set_cons_zero, List.set_cons_succ]
        refine wpAnyH_take (i := 6) (oi := { dst := some 46, op := Op.nilCheck (Operand.tmp 45), type := 0, pos := "message.go:52", after := #[{ on := 5, ground := Ground.data }], guard := none }) (v := .pointer (some ⟨be, 0, none⟩)) rfl (by kernel_rfl) (by kernel_rfl) (by kernel_rfl) (fun _ _ _ h => h) (.inl ⟨rfl, fun _ _ => rfl⟩) hS0 ?_
        simp only [Act.put, List.setIfInBounds_toArray, List.set_cons_zero, List.set_cons_succ]
        refine wpAnyH_take (i := 7) (oi := { dst := some 47, op := Op.fieldAddr 236 (Operand.tmp 46) 0, type := 0, pos := "message.go:52", after := #[{ on := 6, ground := Ground.data }], guard := none }) (v := .pointer (some ⟨be, 0, none⟩)) rfl (by kernel_rfl) (by kernel_rfl) (by kernel_rfl) (fun _ _ _ h => h) (.inl ⟨rfl, fun _ _ => by go_simp⟩) hS0 ?_
        simp only [Act.put, List.setIfInBounds_toArray, List.set_cons_zero, List.set_cons_succ]
        refine wpAnyH_take (i := 8) (oi := { dst := some 48, op := Op.load 104 (Operand.tmp 47), type := 104, pos := "message.go:52", after := #[{ on := 7, ground := Ground.data }], guard := none }) (v := .pointer (some ⟨b, 0, none⟩)) rfl (by kernel_rfl) (by kernel_rfl) (by kernel_rfl) (fun _ _ _ h => h) (.inl ⟨rfl, fun W hW => by have hW2 : W.cell? ⟨be, 0, none⟩ = some (.pointer (some ⟨b, 0, none⟩)) := hW; simp [execOp, go_sem, Act.eval, hW2]⟩) hS0 ?_
        simp only [Act.put, List.setIfInBounds_toArray, List.set_cons_zero, List.set_cons_succ]
        refine wpAnyH_take (i := 9) (oi := { dst := some 49, op := Op.makeFunc (Fn.func 147) #[Operand.tmp 48] #[], type := 1, pos := "message.go:52", after := #[{ on := 8, ground := Ground.data }], guard := none }) (v := .func (.func 147) #[.pointer (some ⟨b, 0, none⟩)] #[]) rfl (by kernel_rfl) (by kernel_rfl) (by kernel_rfl) (fun _ _ _ h => h) (.inl ⟨rfl, fun _ _ => by go_simp⟩) hS0 ?_
        simp only [Act.put, List.setIfInBounds_toArray, List.set_cons_zero, List.set_cons_succ]
        refine wpAnyH_take (i := 11) (oi := { dst := some 50, op := Op.move (Operand.tmp 0), type := 234, pos := "message.go:52", after := #[], guard := none }) (v := .pointer (some ⟨be, 0, none⟩)) rfl (by kernel_rfl) (by kernel_rfl) (by kernel_rfl) (fun _ _ _ h => h) (.inl ⟨rfl, fun _ _ => rfl⟩) hS0 ?_
        simp only [Act.put, List.setIfInBounds_toArray, List.set_cons_zero, List.set_cons_succ]
        refine wpAnyH_take (i := 12) (oi := { dst := some 51, op := Op.nilCheck (Operand.tmp 50), type := 0, pos := "message.go:52", after := #[{ on := 11, ground := Ground.data }], guard := none }) (v := .pointer (some ⟨be, 0, none⟩)) rfl (by kernel_rfl) (by kernel_rfl) (by kernel_rfl) (fun _ _ _ h => h) (.inl ⟨rfl, fun _ _ => rfl⟩) hS0 ?_
        simp only [Act.put, List.setIfInBounds_toArray, List.set_cons_zero, List.set_cons_succ]
        refine wpAnyH_take (i := 13) (oi := { dst := some 52, op := Op.fieldAddr 236 (Operand.tmp 51) 0, type := 0, pos := "message.go:52", after := #[{ on := 12, ground := Ground.data }], guard := none }) (v := .pointer (some ⟨be, 0, none⟩)) rfl (by kernel_rfl) (by kernel_rfl) (by kernel_rfl) (fun _ _ _ h => h) (.inl ⟨rfl, fun _ _ => by go_simp⟩) hS0 ?_
        simp only [Act.put, List.setIfInBounds_toArray, List.set_cons_zero, List.set_cons_succ]
        refine wpAnyH_take (i := 14) (oi := { dst := some 53, op := Op.load 104 (Operand.tmp 52), type := 104, pos := "message.go:52", after := #[{ on := 13, ground := Ground.data }], guard := none }) (v := .pointer (some ⟨b, 0, none⟩)) rfl (by kernel_rfl) (by kernel_rfl) (by kernel_rfl) (fun _ _ _ h => h) (.inl ⟨rfl, fun W hW => by have hW2 : W.cell? ⟨be, 0, none⟩ = some (.pointer (some ⟨b, 0, none⟩)) := hW; simp [execOp, go_sem, Act.eval, hW2]⟩) hS0 ?_
        simp only [Act.put, List.setIfInBounds_toArray, List.set_cons_zero, List.set_cons_succ]
        refine wpAnyH_take (i := 15) (oi := { dst := some 54, op := Op.makeFunc (Fn.func 103) #[Operand.tmp 53] #[], type := 1, pos := "message.go:52", after := #[{ on := 14, ground := Ground.data }], guard := none }) (v := .func (.func 103) #[.pointer (some ⟨b, 0, none⟩)] #[]) rfl (by kernel_rfl) (by kernel_rfl) (by kernel_rfl) (fun _ _ _ h => h) (.inl ⟨rfl, fun _ _ => by go_simp⟩) hS0 ?_
        simp only [Act.put, List.setIfInBounds_toArray, List.set_cons_zero, List.set_cons_succ]
        refine wpAnyH_take (i := 17) (oi := { dst := some 55, op := Op.move (Operand.tmp 0), type := 234, pos := "message.go:52", after := #[], guard := none }) (v := .pointer (some ⟨be, 0, none⟩)) rfl (by kernel_rfl) (by kernel_rfl) (by kernel_rfl) (fun _ _ _ h => h) (.inl ⟨rfl, fun _ _ => rfl⟩) hS0 ?_
        simp only [Act.put, List.setIfInBounds_toArray, List.set_cons_zero, List.set_cons_succ]
        refine wpAnyH_take (i := 18) (oi := { dst := some 56, op := Op.nilCheck (Operand.tmp 55), type := 0, pos := "message.go:52", after := #[{ on := 17, ground := Ground.data }], guard := none }) (v := .pointer (some ⟨be, 0, none⟩)) rfl (by kernel_rfl) (by kernel_rfl) (by kernel_rfl) (fun _ _ _ h => h) (.inl ⟨rfl, fun _ _ => rfl⟩) hS0 ?_
        simp only [Act.put, List.setIfInBounds_toArray, List.set_cons_zero, List.set_cons_succ]
        refine wpAnyH_take (i := 19) (oi := { dst := some 57, op := Op.fieldAddr 236 (Operand.tmp 56) 0, type := 0, pos := "message.go:52", after := #[{ on := 18, ground := Ground.data }], guard := none }) (v := .pointer (some ⟨be, 0, none⟩)) rfl (by kernel_rfl) (by kernel_rfl) (by kernel_rfl) (fun _ _ _ h => h) (.inl ⟨rfl, fun _ _ => by go_simp⟩) hS0 ?_
        simp only [Act.put, List.setIfInBounds_toArray, List.set_cons_zero, List.set_cons_succ]
        refine wpAnyH_take (i := 20) (oi := { dst := some 58, op := Op.load 104 (Operand.tmp 57), type := 104, pos := "message.go:52", after := #[{ on := 19, ground := Ground.data }], guard := none }) (v := .pointer (some ⟨b, 0, none⟩)) rfl (by kernel_rfl) (by kernel_rfl) (by kernel_rfl) (fun _ _ _ h => h) (.inl ⟨rfl, fun W hW => by have hW2 : W.cell? ⟨be, 0, none⟩ = some (.pointer (some ⟨b, 0, none⟩)) := hW; simp [execOp, go_sem, Act.eval, hW2]⟩) hS0 ?_
        simp only [Act.put, List.setIfInBounds_toArray, List.set_cons_zero, List.set_cons_succ]
        refine wpAnyH_take (i := 21) (oi := { dst := some 59, op := Op.makeFunc (Fn.func 103) #[Operand.tmp 58] #[], type := 1, pos := "message.go:52", after := #[{ on := 20, ground := Ground.data }], guard := none }) (v := .func (.func 103) #[.pointer (some ⟨b, 0, none⟩)] #[]) rfl (by kernel_rfl) (by kernel_rfl) (by kernel_rfl) (fun _ _ _ h => h) (.inl ⟨rfl, fun _ _ => by go_simp⟩) hS0 ?_
        simp only [Act.put, List.setIfInBounds_toArray, List.set_cons_zero, List.set_cons_succ]
        refine wpAnyH_take (i := 23) (oi := { dst := some 60, op := Op.move (Operand.tmp 0), type := 234, pos := "message.go:52", after := #[], guard := none }) (v := .pointer (some ⟨be, 0, none⟩)) rfl (by kernel_rfl) (by kernel_rfl) (by kernel_rfl) (fun _ _ _ h => h) (.inl ⟨rfl, fun _ _ => rfl⟩) hS0 ?_
        simp only [Act.put, List.setIfInBounds_toArray, List.set_cons_zero, List.set_cons_succ]
        refine wpAnyH_take (i := 24) (oi := { dst := some 61, op := Op.nilCheck (Operand.tmp 60), type := 0, pos := "message.go:52", after := #[{ on := 23, ground := Ground.data }], guard := none }) (v := .pointer (some ⟨be, 0, none⟩)) rfl (by kernel_rfl) (by kernel_rfl) (by kernel_rfl) (fun _ _ _ h => h) (.inl ⟨rfl, fun _ _ => rfl⟩) hS0 ?_
        simp only [Act.put, List.setIfInBounds_toArray, List.set_cons_zero, List.set_cons_succ]
        refine wpAnyH_take (i := 25) (oi := { dst := some 62, op := Op.fieldAddr 236 (Operand.tmp 61) 0, type := 0, pos := "message.go:52", after := #[{ on := 24, ground := Ground.data }], guard := none }) (v := .pointer (some ⟨be, 0, none⟩)) rfl (by kernel_rfl) (by kernel_rfl) (by kernel_rfl) (fun _ _ _ h => h) (.inl ⟨rfl, fun _ _ => by go_simp⟩) hS0 ?_
        simp only [Act.put, List.setIfInBounds_toArray, List.set_cons_zero, List.set_cons_succ]
        refine wpAnyH_take (i := 26) (oi := { dst := some 63, op := Op.load 104 (Operand.tmp 62), type := 104, pos := "message.go:52", after := #[{ on := 25, ground := Ground.data }], guard := none }) (v := .pointer (some ⟨b, 0, none⟩)) rfl (by kernel_rfl) (by kernel_rfl) (by kernel_rfl) (fun _ _ _ h => h) (.inl ⟨rfl, fun W hW => by have hW2 : W.cell? ⟨be, 0, none⟩ = some (.pointer (some ⟨b, 0, none⟩)) := hW; simp [execOp, go_sem, Act.eval, hW2]⟩) hS0 ?_
        simp only [Act.put, List.setIfInBounds_toArray, List.set_cons_zero, List.set_cons_succ]
        refine wpAnyH_take (i := 27) (oi := { dst := some 64, op := Op.makeFunc (Fn.func 103) #[Operand.tmp 63] #[], type := 1, pos := "message.go:52", after := #[{ on := 26, ground := Ground.data }], guard := none }) (v := .func (.func 103) #[.pointer (some ⟨b, 0, none⟩)] #[]) rfl (by kernel_rfl) (by kernel_rfl) (by kernel_rfl) (fun _ _ _ h => h) (.inl ⟨rfl, fun _ _ => by go_simp⟩) hS0 ?_
        simp only [Act.put, List.setIfInBounds_toArray, List.set_cons_zero, List.set_cons_succ]
        refine wpAnyH_take (i := 29) (oi := { dst := some 65, op := Op.move (Operand.tmp 0), type := 234, pos := "message.go:52", after := #[], guard := none }) (v := .pointer (some ⟨be, 0, none⟩)) rfl (by kernel_rfl) (by kernel_rfl) (by kernel_rfl) (fun _ _ _ h => h) (.inl ⟨rfl, fun _ _ => rfl⟩) hS0 ?_
        simp only [Act.put, List.setIfInBounds_toArray, List.set_cons_zero, List.set_cons_succ]
        refine wpAnyH_take (i := 30) (oi := { dst := some 66, op := Op.nilCheck (Operand.tmp 65), type := 0, pos := "message.go:52", after := #[{ on := 29, ground := Ground.data }], guard := none }) (v := .pointer (some ⟨be, 0, none⟩)) rfl (by kernel_rfl) (by kernel_rfl) (by kernel_rfl) (fun _ _ _ h => h) (.inl ⟨rfl, fun _ _ => rfl⟩) hS0 ?_
        simp only [Act.put, List.setIfInBounds_toArray, List.set_cons_zero, List.set_cons_succ]
        refine wpAnyH_take (i := 31) (oi := { dst := some 67, op := Op.fieldAddr 236 (Operand.tmp 66) 0, type := 0, pos := "message.go:52", after := #[{ on := 30, ground := Ground.data }], guard := none }) (v := .pointer (some ⟨be, 0, none⟩)) rfl (by kernel_rfl) (by kernel_rfl) (by kernel_rfl) (fun _ _ _ h => h) (.inl ⟨rfl, fun _ _ => by go_simp⟩) hS0 ?_
        simp only [Act.put, List.setIfInBounds_toArray, List.set_cons_zero, List.set_cons_succ]
        refine wpAnyH_take (i := 32) (oi := { dst := some 68, op := Op.load 104 (Operand.tmp 67), type := 104, pos := "message.go:52", after := #[{ on := 31, ground := Ground.data }], guard := none }) (v := .pointer (some ⟨b, 0, none⟩)) rfl (by kernel_rfl) (by kernel_rfl) (by kernel_rfl) (fun _ _ _ h => h) (.inl ⟨rfl, fun W hW => by have hW2 : W.cell? ⟨be, 0, none⟩ = some (.pointer (some ⟨b, 0, none⟩)) := hW; simp [execOp, go_sem, Act.eval, hW2]⟩) hS0 ?_
        simp only [Act.put, List.setIfInBounds_toArray, List.set_cons_zero, List.set_cons_succ]
        refine wpAnyH_take (i := 33) (oi := { dst := some 69, op := Op.makeFunc (Fn.func 103) #[Operand.tmp 68] #[], type := 1, pos := "message.go:52", after := #[{ on := 32, ground := Ground.data }], guard := none }) (v := .func (.func 103) #[.pointer (some ⟨b, 0, none⟩)] #[]) rfl (by kernel_rfl) (by kernel_rfl) (by kernel_rfl) (fun _ _ _ h => h) (.inl ⟨rfl, fun _ _ => by go_simp⟩) hS0 ?_
        simp only [Act.put, List.setIfInBounds_toArray, List.set_cons_zero, List.set_cons_succ]
        refine wpAnyH_take (i := 35) (oi := { dst := some 70, op := Op.move (Operand.tmp 0), type := 234, pos := "message.go:52", after := #[], guard := none }) (v := .pointer (some ⟨be, 0, none⟩)) rfl (by kernel_rfl) (by kernel_rfl) (by kernel_rfl) (fun _ _ _ h => h) (.inl ⟨rfl, fun _ _ => rfl⟩) hS0 ?_
        simp only [Act.put, List.setIfInBounds_toArray, List.set_cons_zero, List.set_cons_succ]
        refine wpAnyH_take (i := 36) (oi := { dst := some 71, op := Op.nilCheck (Operand.tmp 70), type := 0, pos := "message.go:52", after := #[{ on := 35, ground := Ground.data }], guard := none }) (v := .pointer (some ⟨be, 0, none⟩)) rfl (by kernel_rfl) (by kernel_rfl) (by kernel_rfl) (fun _ _ _ h => h) (.inl ⟨rfl, fun _ _ => rfl⟩) hS0 ?_
        simp only [Act.put, List.setIfInBounds_toArray, List.set_cons_zero, List.set_cons_succ]
        refine wpAnyH_take (i := 37) (oi := { dst := some 72, op := Op.fieldAddr 236 (Operand.tmp 71) 0, type := 0, pos := "message.go:52", after := #[{ on := 36, ground := Ground.data }], guard := none }) (v := .pointer (some ⟨be, 0, none⟩)) rfl (by kernel_rfl) (by kernel_rfl) (by kernel_rfl) (fun _ _ _ h => h) (.inl ⟨rfl, fun _ _ => by go_simp⟩) hS0 ?_
        simp only [Act.put, List.setIfInBounds_toArray, List.set_cons_zero, List.set_cons_succ]
        refine wpAnyH_take (i := 38) (oi := { dst := some 73, op := Op.load 104 (Operand.tmp 72), type := 104, pos := "message.go:52", after := #[{ on := 37, ground := Ground.data }], guard := none }) (v := .pointer (some ⟨b, 0, none⟩)) rfl (by kernel_rfl) (by kernel_rfl) (by kernel_rfl) (fun _ _ _ h => h) (.inl ⟨rfl, fun W hW => by have hW2 : W.cell? ⟨be, 0, none⟩ = some (.pointer (some ⟨b, 0, none⟩)) := hW; simp [execOp, go_sem, Act.eval, hW2]⟩) hS0 ?_
        simp only [Act.put, List.setIfInBounds_toArray, List.set_cons_zero, List.set_cons_succ]
        refine wpAnyH_take (i := 39) (oi := { dst := some 74, op := Op.makeFunc (Fn.func 103) #[Operand.tmp 73] #[], type := 1, pos := "message.go:52", after := #[{ on := 38, ground := Ground.data }], guard := none }) (v := .func (.func 103) #[.pointer (some ⟨b, 0, none⟩)] #[]) rfl (by kernel_rfl) (by kernel_rfl) (by kernel_rfl) (fun _ _ _ h => h) (.inl ⟨rfl, fun _ _ => by go_simp⟩) hS0 ?_
        simp only [Act.put, List.setIfInBounds_toArray, List.set_cons_zero, List.set_cons_succ]
        refine wpAnyH_take (i := 42) (oi := { dst := some 76, op := Op.move (Operand.tmp 0), type := 234, pos := "message.go:52", after := #[], guard := none }) (v := .pointer (some ⟨be, 0, none⟩)) rfl (by kernel_rfl) (by kernel_rfl) (by kernel_rfl) (fun _ _ _ h => h) (.inl ⟨rfl, fun _ _ => rfl⟩) hS0 ?_
        simp only [Act.put, List.setIfInBounds_toArray, List.set_cons_zero, List.set_cons_succ]
        refine wpAnyH_take (i := 43) (oi := { dst := some 77, op := Op.makeFunc (Fn.func 247) #[Operand.tmp 76] #[], type := 1, pos := "message.go:52", after := #[{ on := 42, ground := Ground.data }], guard := none }) (v := .func (.func 247) #[.pointer (some ⟨be, 0, none⟩)] #[]) rfl (by kernel_rfl) (by kernel_rfl) (by kernel_rfl) (fun _ _ _ h => h) (.inl ⟨rfl, fun _ _ => by go_simp⟩) hS0 ?_
        simp only [Act.put, List.setIfInBounds_toArray, List.set_cons_zero, List.set_cons_succ]
        refine wpAnyH_all (rs := [4]) (by kernel_rfl) (by simp) ?_
        intro i hi
        obtain rfl : i = 4 := by simpa using hi
        refine wpOp_makeMap Tryz.underlying158 (o := { dst := some 44, op := Op.makeMap 158 none, type := 158, pos := "message.go:52", after := #[], guard := none }) rfl rfl rfl ?_
        intro hmap
        simp only [Act.put, List.setIfInBounds_toArray, List.set_cons_zero, List.set_cons_succ]
        refine ⟨hS1, ?_⟩
        refine wpAnyH_ins0 Tryz.underlying158 Tryz.underlying9 (ms := .tmp 44) (mb := ({ wc with drawn := wc.drawn + 1 } : World).heap.size) ?hm [10, 16, 22, 28, 34, 40] (fun i => if i = 10 then kSemi else if i = 16 then kOption else if i = 22 then kOpt else if i = 28 then kRep else if i = 34 then kMap else kGrp) (fun i => if i = 10 then .func (.func 147) #[.pointer (some ⟨b, 0, none⟩)] #[] else if i = 16 then .func (.func 103) #[.pointer (some ⟨b, 0, none⟩)] #[] else if i = 22 then .func (.func 103) #[.pointer (some ⟨b, 0, none⟩)] #[] else if i = 28 then .func (.func 103) #[.pointer (some ⟨b, 0, none⟩)] #[] else if i = 34 then .func (.func 103) #[.pointer (some ⟨b, 0, none⟩)] #[] else .func (.func 103) #[.pointer (some ⟨b, 0, none⟩)] #[]) (by decide) (by decide) ?hops hSk _ #[true, true, true, true, true, true, true, true, true, true, true, true, true, true, true, true, true, true, true, true, true, true, true, true, true, true, true, true, true, true, true, true, true, true, true, true, true, true, true, true, true, false, true, true, false] (by kernel_rfl) (by kernel_rfl) _ 2 6 rfl hmap hS1 ?hc
        case hm => rfl
        case hops =>
          intro i hi
          simp only [List.mem_cons, List.mem_nil_iff, or_false] at hi
          rcases hi with rfl | rfl | rfl | rfl | rfl | rfl <;> exact ⟨_, _, rfl, rfl, rfl, rfl, rfl⟩
        intro w5 xs hm5 hlook hg5 hS5
        refine wpAnyH_take (i := 41) (oi := { dst := some 75, op := Op.move (Operand.tmp 44), type := 158, pos := "message.go:52", after := #[{ on := 4, ground := Ground.data }, { on := 5, ground := Ground.data }, { on := 6, ground := Ground.data }, { on := 7, ground := Ground.data }, { on := 8, ground := Ground.data }, { on := 9, ground := Ground.data }, { on := 10, ground := Ground.data }, { on := 11, ground := Ground.data }, { on := 12, ground := Ground.data }, { on := 13, ground := Ground.data }, { on := 14, ground := Ground.data }, { on := 15, ground := Ground.data }, { on := 16, ground := Ground.data }, { on := 17, ground := Ground.data }, { on := 18, ground := Ground.data }, { on := 19, ground := Ground.data }, { on := 20, ground := Ground.data }, { on := 21, ground := Ground.data }, { on := 22, ground := Ground.data }, { on := 23, ground := Ground.data }, { on := 24, ground := Ground.data }, { on := 25, ground := Ground.data }, { on := 26, ground := Ground.data }, { on := 27, ground := Ground.data }, { on := 28, ground := Ground.data }, { on := 29, ground := Ground.data }, { on := 30, ground := Ground.data }, { on := 31, ground := Ground.data }, { on := 32, ground := Ground.data }, { on := 33, ground := Ground.data }, { on := 34, ground := Ground.data }, { on := 35, ground := Ground.data }, { on := 36, ground := Ground.data }, { on := 37, ground := Ground.data }, { on := 38, ground := Ground.data }, { on := 39, ground := Ground.data }, { on := 40, ground := Ground.data }], guard := none }) (v := .map (some wc.heap.size)) rfl (by kernel_rfl) (by kernel_rfl) (by kernel_rfl) (fun _ _ _ h => h) (.inl ⟨rfl, fun _ _ => rfl⟩) hS5 ?_
        simp only [Act.put, List.setIfInBounds_toArray, List.set_cons_zero, List.set_cons_succ]
        refine wpAnyH_all (rs := [44]) (by kernel_rfl) (by simp) ?_
        intro i hi
        obtain rfl : i = 44 := by simpa using hi
        refine wpOp_of (o := { dst := some 78, op := Op.call { callee := Callee.value (Operand.func 200), args := #[Operand.tmp 43, Operand.tmp 75, Operand.tmp 77], argTypes := #[104, 158, 1] }, type := 0, pos := "message.go:52", after := #[{ on := 3, ground := Ground.data }, { on := 41, ground := Ground.data }, { on := 43, ground := Ground.data }], guard := none }) rfl rfl ?_
        go_simp
        go_at_call 200
        have hk5 : Kp (fun k => k = wc.heap.size) wc w5 := ((Kp.refl _ wc).drew.alloc (.map #[] 0)).grown hg5 (fun k e _ => by injection e with e; exact e.symm)
        have hsz5 : wc.heap.size < w5.heap.size := by have := hg5.size; simp at this; exact this
        have hbz : b < wc.heap.size := HE4.out.ps.lt
        have hlb := HE4.out.lb
        have hlg := HE4.out.lg
        have hgz : g < wc.heap.size := HE4.out.ps.gb.lt
        have hlB := HE4.out.lB
        have hszB := HE4.out.sz
        have hE5 : Mg w5 b g cur be B deep { x with onos := x.onos ++ [⟨y.t, y.p⟩] } ⟨vf, .slice A6 (x.onos.length + 1) c6, vm, ve, vr, vn⟩ C l.tail.tail :=
          ⟨HE4.out.ps.kp hk5 (by omega) (by omega), HE4.out.blk.kp hk5 (by omega), HE4.out.rows.keep hk5.size (fun i hi => hk5.block i (HE4.out.rows.all_lt i hi).2 (by have := (HE4.out.rows.all_lt i hi).2; omega)), hlb, hlg, hlB, by omega⟩
        have hP5 : ∀ k, k ∈ owns (mrows { x with onos := x.onos ++ [⟨y.t, y.p⟩] } ⟨vf, .slice A6 (x.onos.length + 1) c6, vm, ve, vr, vn⟩) ∨ w5.heap.size ≤ k → (fun k => B ≤ k ∧ k ≠ wc.heap.size) k := by
          rintro k (hk | hk)
          · have := HE4.out.rows.own_lt k hk
            exact ⟨this.1, by omega⟩
          · exact ⟨by omega, by omega⟩
        have hI : OnI b g cur be B deep wc.heap.size (fun k => B ≤ k ∧ k ≠ wc.heap.size) xs w5 { x with onos := x.onos ++ [⟨y.t, y.p⟩] } l.tail.tail := ⟨⟨_, C, hE5, hP5⟩, hm5⟩
        have hx5 : ∀ z, lookS xs z = lookS (onKey b) z := hlook
        have hmb5 : wc.heap.size ≠ b ∧ wc.heap.size ≠ be ∧ ¬ (fun k => B ≤ k ∧ k ≠ wc.heap.size) wc.heap.size := ⟨by omega, by omega, fun h => h.2 rfl⟩
        have HC := Lib.hid (block_any onS (OnI b g cur be B deep wc.heap.size (fun k => B ≤ k ∧ k ≠ wc.heap.size) xs) (Kq b be (fun k => B ≤ k ∧ k ≠ wc.heap.size)) (fun _ _ h => Kp.kq h) (fun _ _ _ h k => h.trans k) wc.heap.size (.func (.func 247) #[.pointer (some ⟨be, 0, none⟩)] #[])
          (fun W s l h => by obtain ⟨⟨_, _, h, _⟩, _⟩ := h; exact h.ps)
          (fun W W' s l l' h hp hk => by obtain ⟨⟨u1, C, h, hq⟩, hm⟩ := h; exact ⟨⟨u1, C, h.next hp hk, fun k hk' => hq k (hk'.imp id (Nat.le_trans hk.size))⟩, hm.kn hk hmb5.1⟩)
          (fun W s l h _ => onElement_any hx5 hmb5 h) { x with onos := x.onos ++ [⟨y.t, y.p⟩] } hI)
        have HK5 := Lib.hid (show Kd b be B w w5 from HK4.out.trans' hk5 (fun i e hi => by have := HK4.out.size; omega))
        clear hm5 hlook hg5 hS5 hk5 hI hx5 HE4 HK4 hS0 hS1 hSk hmap hE5 hP5
        rw [← HR3.out] at HC
        refine HC.out.mono ?_
        intro e w6 hq
        cases R with
        | no p c =>
          obtain ⟨rfl, hk⟩ := hq
          have HK6 := Lib.hid (show Kd b be B w w6 from HK5.out.trans (hk.mono fun i e _ => by rcases e with e | e | e; exact .inl e; exact .inr (.inl e); exact .inr (.inr e.1)))
          exact ⟨rfl, rfl, HK6.out⟩
        | ok x' l' =>
          obtain ⟨v, rfl, rfl, ⟨⟨V', C', hes, _⟩, hm⟩, hk⟩ := hq
          have HK6 := Lib.hid (show Kd b be B w w6 from HK5.out.trans (hk.mono fun i e _ => by rcases e with e | e | e; exact .inl e; exact .inr (.inl e); exact .inr (.inr e.1)))
          have HE6 := Lib.hid hes
          have hS6 : w6.cell? ⟨be, 0, none⟩ = some (.pointer (some ⟨b, 0, none⟩)) := hes.blk.cell 0
          clear HC HK5 hes hm hk
          refine ⟨hS6, wpAnyH_done (by kernel_rfl) ?_ _⟩
          clear hS6
          go_wp2_with fail
          go_end0
          exact ⟨_, rfl, rfl, ⟨V', C', HE6.out⟩, HK6.out⟩
end
end
section
open Go.RowKit
set_option linter.unusedVariables false
set_option linter.unusedSimpArgs false

theorem Tryz.info52 : (Tryz.prog.info? 52).map (fun i => (i.zero, i.size, i.bytes)) = some (some (.agg #[.string ⟨#[]⟩, .int .i64 0, .slice none 0 0, .slice none 0 0, .slice none 0 0]), 5, 96) := by kernel_rfl
theorem Tryz.underlying24 : Tryz.prog.underlying 24 = some (.slice 52) := by kernel_rfl
theorem sl_val {w : World} {B t k n : Nat} {cs : List Dv} {v : Value} {F : List Nat} (h : Mem w B (.sl t k n cs) v F) : ∃ A c, v = .slice A n c := by
  cases h with
  | sl _ _ _ _ _ xs F o hc =>
    rcases o.2 with ⟨e, hn⟩ | ⟨q, cap, cur, e, _⟩
    · exact ⟨none, 0, by rw [e, hn]⟩
    · exact ⟨_, cap, e⟩
theorem En_vals {w : World} {B : Nat} {y : En} {vs : Array Value} {F : List Nat} (h : MemL w B (En.dv Ty0 y) vs.toList F) :
    ∃ A1 c1 A2 c2 A3 c3, vs = #[.string y.name, .int .i64 y.at_, .slice A1 y.vals.length c1, .slice A2 y.rngs.length c2, .slice A3 y.nams.length c3] := by
  obtain ⟨l⟩ := vs
  simp only at h
  unfold En.dv Go.Proofs.YthmdaejlopjjoaaGreatDoor.sv iv lsD at h
  cases h with
  | cons _ a _ _ _ _ h1 h =>
  cases h with
  | cons _ b _ _ _ _ h2 h =>
  cases h with
  | cons _ c _ _ _ _ h3 h =>
  cases h with
  | cons _ d _ _ _ _ h4 h =>
  cases h with
  | cons _ e _ _ _ _ h5 h =>
  cases h
  cases h1
  cases h2
  obtain ⟨A1, c1, rfl⟩ := sl_val h3
  obtain ⟨A2, c2, rfl⟩ := sl_val h4
  obtain ⟨A3, c3, rfl⟩ := sl_val h5
  exact ⟨A1, c1, A2, c2, A3, c3, rfl⟩
section
variable {w : World} {b g : Nat} {cur : Array Value} {l : List Wd}
set_option maxRecDepth 100000 in
set_option maxHeartbeats 4000000 in
theorem mEnum_any (hX : Ext) {be B deep : Nat} {x : Ms} {V : MV} {C : List Nat} (h : Mg w b g cur be B deep x V C l) (hk0 : (hdW l).k ≠ 0) :
    Calls Tryz.prog 224 #[.pointer (some ⟨be, 0, none⟩)] w (PzQ (roomP x.enums.length 128 l ((enP l).and fun y l => .ok { x with enums := x.enums ++ [y] } l)) (Kd b be B w) (MgK w b g cur be B deep)) := by
  obtain ⟨i0, hi0, hz0, hz1, hz2⟩ := info_parts Tryz.info52
  rcases V with ⟨vf, vo, vm, ve, vr, vn⟩
  obtain ⟨R, hR⟩ : ∃ R, R = roomP x.enums.length 128 l ((enP l).and fun y l => Pz.ok { x with enums := x.enums ++ [y] } l) := ⟨_, rfl⟩
  rw [← hR]
  unfold roomP at hR
  have HR := Lib.hid hR
  have HM := Lib.hid (room_any h.drew.ps x.enums.length 128)
  obtain ⟨A1, c1, hv1, -, -⟩ := h.rows.val (j := 3) rfl
  simp only at hv1
  subst hv1
  have H := Lib.hid h
  obtain ⟨d0, hlt⟩ := h.ptr
  have d4 : w.cell? ⟨be, 6, none⟩ = some (.slice A1 x.enums.length c1) := h.blk.cell 6
  clear h hR
  go_enter Tryz.func224, Tryz.ntmps224
  go_wp2_with fail
  go_still_tail 10, (by kernel_rfl)
  change wpList _ _ _ _ _ w.drew
  go_wp2_with fail
  refine HM.out.mono ?_
  rintro e w1 ⟨h1, hk1⟩
  have HK1 := Lib.hid (show Kn w w1 from (Kp.refl _ w).drew.trans hk1)
  have HE1 := Lib.hid (H.out.drew.kn hk1)
  clear hk1 d0 d4
  rcases h1 with ⟨hge, rfl⟩ | ⟨hlt4, rfl⟩
  · have HR2 := Lib.hid (show R = .no (hdW l).p 5 by rw [HR.out, if_pos hge])
    clear HM hge HR
    unfold Stp stopV
    go_wp2_with fail
    rw [HR2.out]
    exact ⟨rfl, rfl, Kn.kd HK1.out⟩
  · have hR2 := HR.out
    rw [if_neg hlt4] at hR2
    have HR2 := Lib.hid hR2
    have hal : x.enums.length ≤ 1000000 := by omega
    obtain ⟨d0, elt⟩ := HE1.out.ptr
    have d4 : w1.cell? ⟨be, 6, none⟩ = some (.slice A1 x.enums.length c1) := HE1.out.blk.cell 6
    have y4 : w1.frozen? ⟨be, 6, none⟩ = false := HE1.out.blk.frozen 6
    have hszB := HE1.out.sz
    have HC := Lib.hid (show Calls Tryz.prog 179 #[.pointer (some ⟨b, 0, none⟩)] w1.drew (fun e w' =>
        (∃ (y : En) (l' : List Wd) (A3 A4 A5 : Option Addr) (c3 c4 c5 : Nat) (F : List Nat), enP l = .ok y l' ∧
          e = .returned (.agg #[.string y.name, .int .i64 y.at_, .slice A3 y.vals.length c3, .slice A4 y.rngs.length c4, .slice A5 y.nams.length c5]) ∧
          MemL w' w1.heap.size (En.dv Ty0 y) (#[.string y.name, .int .i64 y.at_, .slice A3 y.vals.length c3, .slice A4 y.rngs.length c4, .slice A5 y.nams.length c5] : Array Value).toList F ∧
          Ps w' b g cur l' ∧ Kb b w1 w') ∨
        (∃ p c, enP l = .no p c ∧ e = Stp p c ∧ Kb b w1 w')) from
      (readEnum_any hX HE1.out.drew.ps hk0).mono fun e w' h' => by
        cases hr : enP l with
        | no p c =>
          rw [hr] at h'
          exact .inr ⟨p, c, rfl, h'.1, (Kp.refl _ w1).drew.trans h'.2⟩
        | ok y l' =>
          rw [hr] at h'
          obtain ⟨v, rfl, vs, F, rfl, hm, hp, hk⟩ := h'
          obtain ⟨A3, c3, A4, c4, A5, c5, rfl⟩ := En_vals hm
          exact .inl ⟨y, l', A3, A4, A5, c3, c4, c5, F, rfl, rfl, hm, hp, (Kp.refl _ w1).drew.trans hk⟩)
    have HPO := Lib.hid fun (w4 : World) (p c : Nat) (hr : enP l = .no p c) (hk : Kb b w1 w4) => (show PzQ R (Kd b be B w) (MgK w b g cur be B deep) (Stp p c) w4 by
      rw [HR2.out, hr]; exact ⟨rfl, Kp.kd ((Kn.kb HK1.out b).trans hk)⟩)
    clear HR hR2 hlt4 HM
    go_wp2_with fail
    go_region_law (first
      | (go_simp; go_at_call 179; refine HC.out.mono ?_; rintro e w4 (⟨y, l', A3, A4, A5, c3, c4, c5, F, hn, rfl, hm, hp, hk⟩ | ⟨p, c, hn, rfl, hk⟩); rotate_left 1; exact ⟨rfl, HPO.out w4 p c hn hk⟩; have HN := Lib.hid hn; have HK4 := Lib.hid hk; have HV := Lib.hid hm; have HE4 := Lib.hid (HE1.out.next hp hk); have q0 : w4.cell? ⟨be, 0, none⟩ = some (.pointer (some ⟨b, 0, none⟩)) := HE4.out.blk.cell 0; have q4 : w4.cell? ⟨be, 6, none⟩ = some (.slice A1 x.enums.length c1) := HE4.out.blk.cell 6; have f4 : w4.frozen? ⟨be, 6, none⟩ = false := HE4.out.blk.frozen 6; have q5 : ∀ o, (w4.alloc o).cell? ⟨be, 6, none⟩ = some (.slice A1 x.enums.length c1) := fun o => (HE4.out.alloc o).blk.cell 6; clear hn hk hm hp)
      | (refine step_append_rows _ (by rfl) _ _ 24 (by rfl) (HE4.out.alloc (.cells #[.string y.name, .int .i64 y.at_, .slice A3 y.vals.length c3, .slice A4 y.rngs.length c4, .slice A5 y.nams.length c5] 52)).rows 3 (rwEn x.enums (.slice A1 x.enums.length c1)) (by rfl) i0 _ 96 Tryz.underlying24 hi0 hz0 hz1 hz2 (by rfl) (Nat.succ_pos 4) (by rfl) w4.heap.size (by rfl) _ (En.dv Ty0 y) (Blk.new w4 52 _) (by rfl) (G := F) ((HV.out.base hszB).stays fun q hq => Below.heap_alloc _ _ q (HV.out.lt q hq).2) (fun q hq hq2 => absurd (HE1.out.rows.own_lt q hq2).2 (Nat.not_lt.mpr (HV.out.lt q hq).1)) hal (by decide) (Nat.le_trans HE4.out.sz (by rw [World.size_alloc]; exact Nat.le_succ _)) ?_; intro v6 wf ho6 hg6 hv6; have HO6 := Lib.hid ho6; have HG6 := Lib.hid hg6; have HB6 := Lib.hid (Blk.kp (HE4.out.alloc (.cells #[.string y.name, .int .i64 y.at_, .slice A3 y.vals.length c3, .slice A4 y.rngs.length c4, .slice A5 y.nams.length c5] 52)).blk (Kp.of_grown hg6) (fun e => by have := ((HE4.out.alloc (.cells #[.string y.name, .int .i64 y.at_, .slice A3 y.vals.length c3, .slice A4 y.rngs.length c4, .slice A5 y.nams.length c5] 52)).rows.own_mem (j := 3) rfl e.symm).2.1; have := HE4.out.lB; omega)); obtain ⟨A6, c6, e6, -, -⟩ := ho6.val (j := 3) rfl; simp only at e6; subst e6; have f3' : wf.frozen? ⟨be, 6, none⟩ = false := HB6.out.frozen 6; have q3' : wf.cell? ⟨be, 6, none⟩ = some (.slice A1 x.enums.length c1) := HB6.out.cell 6; clear ho6 hg6 hv6))
    all_goals
      rw [HR2.out, HN.out]
      go_end0
      have hne : be ≠ b := by have := HE4.out.lb; omega
      have hng : be ≠ g := by have := HE4.out.lg; omega
      have hown : ∀ i, (Value.slice A1 x.enums.length c1).ownBlock = some i → B ≤ i := fun i hi => (HE4.out.rows.own_mem (j := 3) rfl hi).2.1
      have h6 := HO6.out
      rw [rwEn_snoc x.enums y (.slice none 0 0) _] at h6
      have hp6 : Ps wf b g cur l' := (HE4.out.alloc _).ps.kp (Kp.of_grown HG6.out) (fun e => by have := hown b e.symm; have := HE4.out.lb; have := HE4.out.lB; omega) (fun e => by have := hown g e.symm; have := HE4.out.lg; have := HE4.out.lB; omega)
      have hk6 : Kd b be B w wf := (Kp.kd (((Kn.kb HK1.out b).trans HK4.out).alloc (.cells #[.string y.name, .int .i64 y.at_, .slice A3 y.vals.length c3, .slice A4 y.rngs.length c4, .slice A5 y.nams.length c5] 52)) : Kd b be B w _).grown HG6.out fun i hi _ => .inr (.inr (hown i hi))
      have hsz6 : B ≤ wf.heap.size := Nat.le_trans HE4.out.sz (Nat.le_trans (Nat.le_trans (Nat.le_succ _) (Nat.le_of_eq (World.size_alloc w4 (.cells #[.string y.name, .int .i64 y.at_, .slice A3 y.vals.length c3, .slice A4 y.rngs.length c4, .slice A5 y.nams.length c5] 52)).symm)) HG6.out.size)
      refine ⟨_, rfl, rfl, ⟨⟨vf, vo, vm, .slice A6 (x.enums.length + 1) c6, vr, vn⟩, C ++ F, hp6.far hne hng _, ?_, ?_, HE4.out.lb, HE4.out.lg, HE4.out.lB, by simpa using hsz6⟩, hk6.setCell (fun _ => .inr (.inl rfl)) _⟩
      · exact HB6.out.set_ 6 _
      · exact Rows_.setCell h6 HE4.out.lB _
end
end
end Go.Proofs.YthmdaejlopjjoaaGreatDoor
