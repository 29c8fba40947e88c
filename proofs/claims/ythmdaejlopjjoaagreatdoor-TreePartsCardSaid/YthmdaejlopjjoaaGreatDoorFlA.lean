/-
  tree: an enum of a file.
  tree: a service of a file.
  tree: the map of a file's elements.
-/
import Derived.Test.YthmdaejlopjjoaaGreatDoorMsD
namespace Go.Proofs.YthmdaejlopjjoaaGreatDoor
section
open Go.RowKit
set_option linter.unusedVariables false
set_option linter.unusedSimpArgs false

section
variable {w : World} {b g : Nat} {cur : Array Value} {l : List Wd}
set_option maxRecDepth 100000 in
set_option maxHeartbeats 4000000 in
theorem fEnum_any (hX : Ext) {be B : Nat} {x : Tr} {V : FV} {C : List Nat} (h : Fg w b g cur be B x V C l) (hk0 : (hdW l).k ≠ 0) :
    Calls Tryz.prog 151 #[.pointer (some ⟨be, 0, none⟩)] w (PzQ (roomP x.enums.length 128 l ((enP l).and fun y l => .ok { x with enums := x.enums ++ [y] } l)) (Kd b be B w) (FgK w b g cur be B)) := by
  obtain ⟨i0, hi0, hz0, hz1, hz2⟩ := info_parts Tryz.info52
  rcases V with ⟨vi, vm, ve, vs⟩
  obtain ⟨R, hR⟩ : ∃ R, R = roomP x.enums.length 128 l ((enP l).and fun y l => Pz.ok { x with enums := x.enums ++ [y] } l) := ⟨_, rfl⟩
  rw [← hR]
  unfold roomP at hR
  have HR := Lib.hid hR
  have HM := Lib.hid (room_any h.drew.ps x.enums.length 128)
  obtain ⟨A1, c1, hv1, -, -⟩ := h.rows.val (j := 2) rfl
  simp only at hv1
  subst hv1
  have H := Lib.hid h
  obtain ⟨d0, hlt⟩ := h.ptr
  have d4 : w.cell? ⟨be, 4, none⟩ = some (.slice A1 x.enums.length c1) := h.blk.cell 4
  clear h hR
  go_enter Tryz.func151, Tryz.ntmps151
  go_wp2_with fail
  go_still_tail 10, (by kernel_rfl)
  change wpList _ _ _ _ _ w.drew
  go_wp2_with fail
  refine HM.out.mono ?_
  rintro e w1 ⟨h1, hk1⟩
  have HK1 := Lib.hid (show Kn w w1 from (Kp.refl _ w).drew.trans hk1)
  have HE1 := Lib.hid (H.out.drew.kn hk1)
  clear hk1 d0 d4
  rcases h1 with ⟨hge, rfl⟩ | ⟨hlt4, rfl⟩
  · have HR2 := Lib.hid (show R = .no (hdW l).p 5 by rw [HR.out, if_pos hge])
    clear HM hge HR
    unfold Stp stopV
    go_wp2_with fail
    rw [HR2.out]
    exact ⟨rfl, rfl, Kn.kd HK1.out⟩
  · have hR2 := HR.out
    rw [if_neg hlt4] at hR2
    have HR2 := Lib.hid hR2
    have hal : x.enums.length ≤ 1000000 := by omega
    obtain ⟨d0, elt⟩ := HE1.out.ptr
    have d4 : w1.cell? ⟨be, 4, none⟩ = some (.slice A1 x.enums.length c1) := HE1.out.blk.cell 4
    have y4 : w1.frozen? ⟨be, 4, none⟩ = false := HE1.out.blk.frozen 4
    have hszB := HE1.out.sz
    have HC := Lib.hid (show Calls Tryz.prog 179 #[.pointer (some ⟨b, 0, none⟩)] w1.drew (fun e w' =>
        (∃ (y : En) (l' : List Wd) (A3 A4 A5 : Option Addr) (c3 c4 c5 : Nat) (F : List Nat), enP l = .ok y l' ∧
          e = .returned (.agg #[.string y.name, .int .i64 y.at_, .slice A3 y.vals.length c3, .slice A4 y.rngs.length c4, .slice A5 y.nams.length c5]) ∧
          MemL w' w1.heap.size (En.dv Ty0 y) (#[.string y.name, .int .i64 y.at_, .slice A3 y.vals.length c3, .slice A4 y.rngs.length c4, .slice A5 y.nams.length c5] : Array Value).toList F ∧
          Ps w' b g cur l' ∧ Kb b w1 w') ∨
        (∃ p c, enP l = .no p c ∧ e = Stp p c ∧ Kb b w1 w')) from
      (readEnum_any hX HE1.out.drew.ps hk0).mono fun e w' h' => by
        cases hr : enP l with
        | no p c =>
          rw [hr] at h'
          exact .inr ⟨p, c, rfl, h'.1, (Kp.refl _ w1).drew.trans h'.2⟩
        | ok y l' =>
          rw [hr] at h'
          obtain ⟨v, rfl, vs, F, rfl, hm, hp, hk⟩ := h'
          obtain ⟨A3, c3, A4, c4, A5, c5, rfl⟩ := En_vals hm
          exact .inl ⟨y, l', A3, A4, A5, c3, c4, c5, F, rfl, rfl, hm, hp, (Kp.refl _ w1).drew.trans hk⟩)
    have HPO := Lib.hid fun (w4 : World) (p c : Nat) (hr : enP l = .no p c) (hk : Kb b w1 w4) => (show PzQ R (Kd b be B w) (FgK w b g cur be B) (Stp p c) w4 by
      rw [HR2.out, hr]; exact ⟨rfl, Kp.kd ((Kn.kb HK1.out b).trans hk)⟩)
    clear HR hR2 hlt4 HM
    go_wp2_with fail
    go_region_law (first
      | (go_simp; go_at_call 179; refine HC.out.mono ?_; rintro e w4 (⟨y, l', A3, A4, A5, c3, c4, c5, F, hn, rfl, hm, hp, hk⟩ | ⟨p, c, hn, rfl, hk⟩); rotate_left 1; exact ⟨rfl, HPO.out w4 p c hn hk⟩; have HN := Lib.hid hn; have HK4 := Lib.hid hk; have HV := Lib.hid hm; have HE4 := Lib.hid (HE1.out.next hp hk); have q0 : w4.cell? ⟨be, 0, none⟩ = some (.pointer (some ⟨b, 0, none⟩)) := HE4.out.blk.cell 0; have q4 : w4.cell? ⟨be, 4, none⟩ = some (.slice A1 x.enums.length c1) := HE4.out.blk.cell 4; have f4 : w4.frozen? ⟨be, 4, none⟩ = false := HE4.out.blk.frozen 4; have q5 : ∀ o, (w4.alloc o).cell? ⟨be, 4, none⟩ = some (.slice A1 x.enums.length c1) := fun o => (HE4.out.alloc o).blk.cell 4; clear hn hk hm hp)
      | (refine step_append_rows _ (by rfl) _ _ 24 (by rfl) (HE4.out.alloc (.cells #[.string y.name, .int .i64 y.at_, .slice A3 y.vals.length c3, .slice A4 y.rngs.length c4, .slice A5 y.nams.length c5] 52)).rows 2 (rwEn x.enums (.slice A1 x.enums.length c1)) (by rfl) i0 _ 96 Tryz.underlying24 hi0 hz0 hz1 hz2 (by rfl) (Nat.succ_pos 4) (by rfl) w4.heap.size (by rfl) _ (En.dv Ty0 y) (Blk.new w4 52 _) (by rfl) (G := F) ((HV.out.base hszB).stays fun q hq => Below.heap_alloc _ _ q (HV.out.lt q hq).2) (fun q hq hq2 => absurd (HE1.out.rows.own_lt q hq2).2 (Nat.not_lt.mpr (HV.out.lt q hq).1)) hal (by decide) (Nat.le_trans HE4.out.sz (by rw [World.size_alloc]; exact Nat.le_succ _)) ?_; intro v6 wf ho6 hg6 hv6; have HO6 := Lib.hid ho6; have HG6 := Lib.hid hg6; have HB6 := Lib.hid (Blk.kp (HE4.out.alloc (.cells #[.string y.name, .int .i64 y.at_, .slice A3 y.vals.length c3, .slice A4 y.rngs.length c4, .slice A5 y.nams.length c5] 52)).blk (Kp.of_grown hg6) (fun e => by have := ((HE4.out.alloc (.cells #[.string y.name, .int .i64 y.at_, .slice A3 y.vals.length c3, .slice A4 y.rngs.length c4, .slice A5 y.nams.length c5] 52)).rows.own_mem (j := 2) rfl e.symm).2.1; have := HE4.out.lB; omega)); obtain ⟨A6, c6, e6, -, -⟩ := ho6.val (j := 2) rfl; simp only at e6; subst e6; have f3' : wf.frozen? ⟨be, 4, none⟩ = false := HB6.out.frozen 4; have q3' : wf.cell? ⟨be, 4, none⟩ = some (.slice A1 x.enums.length c1) := HB6.out.cell 4; clear ho6 hg6 hv6))
    all_goals
      rw [HR2.out, HN.out]
      go_end0
      have hne : be ≠ b := by have := HE4.out.lb; omega
      have hng : be ≠ g := by have := HE4.out.lg; omega
      have hown : ∀ i, (Value.slice A1 x.enums.length c1).ownBlock = some i → B ≤ i := fun i hi => (HE4.out.rows.own_mem (j := 2) rfl hi).2.1
      have h6 := HO6.out
      rw [rwEn_snoc x.enums y (.slice none 0 0) _] at h6
      have hp6 : Ps wf b g cur l' := (HE4.out.alloc _).ps.kp (Kp.of_grown HG6.out) (fun e => by have := hown b e.symm; have := HE4.out.lb; have := HE4.out.lB; omega) (fun e => by have := hown g e.symm; have := HE4.out.lg; have := HE4.out.lB; omega)
      have hk6 : Kd b be B w wf := (Kp.kd (((Kn.kb HK1.out b).trans HK4.out).alloc (.cells #[.string y.name, .int .i64 y.at_, .slice A3 y.vals.length c3, .slice A4 y.rngs.length c4, .slice A5 y.nams.length c5] 52)) : Kd b be B w _).grown HG6.out fun i hi _ => .inr (.inr (hown i hi))
      have hsz6 : B ≤ wf.heap.size := Nat.le_trans HE4.out.sz (Nat.le_trans (Nat.le_trans (Nat.le_succ _) (Nat.le_of_eq (World.size_alloc w4 (.cells #[.string y.name, .int .i64 y.at_, .slice A3 y.vals.length c3, .slice A4 y.rngs.length c4, .slice A5 y.nams.length c5] 52)).symm)) HG6.out.size)
      refine ⟨_, rfl, rfl, ⟨⟨vi, vm, .slice A6 (x.enums.length + 1) c6, vs⟩, C ++ F, hp6.far hne hng _, ?_, ?_, HE4.out.lb, HE4.out.lg, HE4.out.lB, by simpa using hsz6⟩, hk6.setCell (fun _ => .inr (.inl rfl)) _⟩
      · exact HB6.out.set_ 4 _
      · exact Rows_.setCell h6 HE4.out.lB _
end
end
section
open Go.RowKit
set_option linter.unusedVariables false
set_option linter.unusedSimpArgs false

section
variable {w : World} {b g : Nat} {cur : Array Value} {l : List Wd}
set_option maxRecDepth 100000 in
set_option maxHeartbeats 4000000 in
theorem fService_any (hX : Ext) {be B : Nat} {x : Tr} {V : FV} {C : List Nat} (h : Fg w b g cur be B x V C l) (hk0 : (hdW l).k ≠ 0) :
    Calls Tryz.prog 152 #[.pointer (some ⟨be, 0, none⟩)] w (PzQ (roomP x.svcs.length 64 l ((svP l).and fun y l => .ok { x with svcs := x.svcs ++ [y] } l)) (Kd b be B w) (FgK w b g cur be B)) := by
  obtain ⟨i0, hi0, hz0, hz1, hz2⟩ := info_parts Tryz.info86
  rcases V with ⟨vi, vm, ve, vs⟩
  obtain ⟨R, hR⟩ : ∃ R, R = roomP x.svcs.length 64 l ((svP l).and fun y l => Pz.ok { x with svcs := x.svcs ++ [y] } l) := ⟨_, rfl⟩
  rw [← hR]
  unfold roomP at hR
  have HR := Lib.hid hR
  have HM := Lib.hid (room_any h.drew.ps x.svcs.length 64)
  obtain ⟨A1, c1, hv1, -, -⟩ := h.rows.val (j := 3) rfl
  simp only at hv1
  subst hv1
  have H := Lib.hid h
  obtain ⟨d0, hlt⟩ := h.ptr
  have d4 : w.cell? ⟨be, 5, none⟩ = some (.slice A1 x.svcs.length c1) := h.blk.cell 5
  clear h hR
  go_enter Tryz.func152, Tryz.ntmps152
  go_wp2_with fail
  go_still_tail 10, (by kernel_rfl)
  change wpList _ _ _ _ _ w.drew
  go_wp2_with fail
  refine HM.out.mono ?_
  rintro e w1 ⟨h1, hk1⟩
  have HK1 := Lib.hid (show Kn w w1 from (Kp.refl _ w).drew.trans hk1)
  have HE1 := Lib.hid (H.out.drew.kn hk1)
  clear hk1 d0 d4
  rcases h1 with ⟨hge, rfl⟩ | ⟨hlt4, rfl⟩
  · have HR2 := Lib.hid (show R = .no (hdW l).p 5 by rw [HR.out, if_pos hge])
    clear HM hge HR
    unfold Stp stopV
    go_wp2_with fail
    rw [HR2.out]
    exact ⟨rfl, rfl, Kn.kd HK1.out⟩
  · have hR2 := HR.out
    rw [if_neg hlt4] at hR2
    have HR2 := Lib.hid hR2
    have hal : x.svcs.length ≤ 1000000 := by omega
    obtain ⟨d0, elt⟩ := HE1.out.ptr
    have d4 : w1.cell? ⟨be, 5, none⟩ = some (.slice A1 x.svcs.length c1) := HE1.out.blk.cell 5
    have y4 : w1.frozen? ⟨be, 5, none⟩ = false := HE1.out.blk.frozen 5
    have hszB := HE1.out.sz
    have HC := Lib.hid (show Calls Tryz.prog 180 #[.pointer (some ⟨b, 0, none⟩)] w1.drew (fun e w' =>
        (∃ (y : Sv) (l' : List Wd) (A3 : Option Addr) (c3 : Nat) (F : List Nat), svP l = .ok y l' ∧
          e = .returned (.agg #[.string y.name, .int .i64 y.at_, .slice A3 y.rpcs.length c3]) ∧
          MemL w' w1.heap.size (Sv.dv Ty0 y) (#[.string y.name, .int .i64 y.at_, .slice A3 y.rpcs.length c3] : Array Value).toList F ∧
          Ps w' b g cur l' ∧ Kb b w1 w') ∨
        (∃ p c, svP l = .no p c ∧ e = Stp p c ∧ Kb b w1 w')) from
      (readService_any HE1.out.drew.ps hk0).mono fun e w' h' => by
        cases hr : svP l with
        | no p c =>
          rw [hr] at h'
          exact .inr ⟨p, c, rfl, h'.1, (Kp.refl _ w1).drew.trans h'.2⟩
        | ok y l' =>
          rw [hr] at h'
          obtain ⟨v, rfl, vs, F, rfl, hm, hp, hk⟩ := h'
          obtain ⟨A3, c3, rfl⟩ := Sv_vals hm
          exact .inl ⟨y, l', A3, c3, F, rfl, rfl, hm, hp, (Kp.refl _ w1).drew.trans hk⟩)
    have HPO := Lib.hid fun (w4 : World) (p c : Nat) (hr : svP l = .no p c) (hk : Kb b w1 w4) => (show PzQ R (Kd b be B w) (FgK w b g cur be B) (Stp p c) w4 by
      rw [HR2.out, hr]; exact ⟨rfl, Kp.kd ((Kn.kb HK1.out b).trans hk)⟩)
    clear HR hR2 hlt4 HM
    go_wp2_with fail
    go_region_law (first
      | (go_simp; go_at_call 180; refine HC.out.mono ?_; rintro e w4 (⟨y, l', A3, c3, F, hn, rfl, hm, hp, hk⟩ | ⟨p, c, hn, rfl, hk⟩); rotate_left 1; exact ⟨rfl, HPO.out w4 p c hn hk⟩; have HN := Lib.hid hn; have HK4 := Lib.hid hk; have HV := Lib.hid hm; have HE4 := Lib.hid (HE1.out.next hp hk); have q0 : w4.cell? ⟨be, 0, none⟩ = some (.pointer (some ⟨b, 0, none⟩)) := HE4.out.blk.cell 0; have q4 : w4.cell? ⟨be, 5, none⟩ = some (.slice A1 x.svcs.length c1) := HE4.out.blk.cell 5; have f4 : w4.frozen? ⟨be, 5, none⟩ = false := HE4.out.blk.frozen 5; have q5 : ∀ o, (w4.alloc o).cell? ⟨be, 5, none⟩ = some (.slice A1 x.svcs.length c1) := fun o => (HE4.out.alloc o).blk.cell 5; clear hn hk hm hp)
      | (refine step_append_rows _ (by rfl) _ _ 25 (by rfl) (HE4.out.alloc (.cells #[.string y.name, .int .i64 y.at_, .slice A3 y.rpcs.length c3] 86)).rows 3 (rwSv x.svcs (.slice A1 x.svcs.length c1)) (by rfl) i0 _ 48 Tryz.underlying25 hi0 hz0 hz1 hz2 (by rfl) (Nat.succ_pos 2) (by rfl) w4.heap.size (by rfl) _ (Sv.dv Ty0 y) (Blk.new w4 86 _) (by rfl) (G := F) ((HV.out.base hszB).stays fun q hq => Below.heap_alloc _ _ q (HV.out.lt q hq).2) (fun q hq hq2 => absurd (HE1.out.rows.own_lt q hq2).2 (Nat.not_lt.mpr (HV.out.lt q hq).1)) hal (by decide) (Nat.le_trans HE4.out.sz (by rw [World.size_alloc]; exact Nat.le_succ _)) ?_; intro v6 wf ho6 hg6 hv6; have HO6 := Lib.hid ho6; have HG6 := Lib.hid hg6; have HB6 := Lib.hid (Blk.kp (HE4.out.alloc (.cells #[.string y.name, .int .i64 y.at_, .slice A3 y.rpcs.length c3] 86)).blk (Kp.of_grown hg6) (fun e => by have := ((HE4.out.alloc (.cells #[.string y.name, .int .i64 y.at_, .slice A3 y.rpcs.length c3] 86)).rows.own_mem (j := 3) rfl e.symm).2.1; have := HE4.out.lB; omega)); obtain ⟨A6, c6, e6, -, -⟩ := ho6.val (j := 3) rfl; simp only at e6; subst e6; have f3' : wf.frozen? ⟨be, 5, none⟩ = false := HB6.out.frozen 5; have q3' : wf.cell? ⟨be, 5, none⟩ = some (.slice A1 x.svcs.length c1) := HB6.out.cell 5; clear ho6 hg6 hv6))
    all_goals
      rw [HR2.out, HN.out]
      go_end0
      have hne : be ≠ b := by have := HE4.out.lb; omega
      have hng : be ≠ g := by have := HE4.out.lg; omega
      have hown : ∀ i, (Value.slice A1 x.svcs.length c1).ownBlock = some i → B ≤ i := fun i hi => (HE4.out.rows.own_mem (j := 3) rfl hi).2.1
      have h6 := HO6.out
      rw [rwSv_snoc x.svcs y (.slice none 0 0) _] at h6
      have hp6 : Ps wf b g cur l' := (HE4.out.alloc _).ps.kp (Kp.of_grown HG6.out) (fun e => by have := hown b e.symm; have := HE4.out.lb; have := HE4.out.lB; omega) (fun e => by have := hown g e.symm; have := HE4.out.lg; have := HE4.out.lB; omega)
      have hk6 : Kd b be B w wf := (Kp.kd (((Kn.kb HK1.out b).trans HK4.out).alloc (.cells #[.string y.name, .int .i64 y.at_, .slice A3 y.rpcs.length c3] 86)) : Kd b be B w _).grown HG6.out fun i hi _ => .inr (.inr (hown i hi))
      have hsz6 : B ≤ wf.heap.size := Nat.le_trans HE4.out.sz (Nat.le_trans (Nat.le_trans (Nat.le_succ _) (Nat.le_of_eq (World.size_alloc w4 (.cells #[.string y.name, .int .i64 y.at_, .slice A3 y.rpcs.length c3] 86)).symm)) HG6.out.size)
      refine ⟨_, rfl, rfl, ⟨⟨vi, vm, ve, .slice A6 (x.svcs.length + 1) c6⟩, C ++ F, hp6.far hne hng _, ?_, ?_, HE4.out.lb, HE4.out.lg, HE4.out.lB, by simpa using hsz6⟩, hk6.setCell (fun _ => .inr (.inl rfl)) _⟩
      · exact HB6.out.set_ 5 _
      · exact Rows_.setCell h6 HE4.out.lB _
end
end
section
open Go.RowKit
set_option linter.unusedVariables false
set_option linter.unusedSimpArgs false

def fiKey (b be : Nat) : List (ByteArray × Value) := [(kSemi, .func (.func 147) #[.pointer (some ⟨b, 0, none⟩)] #[]), (kPkg, .func (.func 148) #[.pointer (some ⟨be, 0, none⟩)] #[]), (kImp, .func (.func 149) #[.pointer (some ⟨be, 0, none⟩)] #[]), (kMsg, .func (.func 150) #[.pointer (some ⟨be, 0, none⟩)] #[]), (kEnum, .func (.func 151) #[.pointer (some ⟨be, 0, none⟩)] #[]), (kSvc, .func (.func 152) #[.pointer (some ⟨be, 0, none⟩)] #[])]
section
variable {w : World}
set_option maxRecDepth 100000 in
set_option maxHeartbeats 4000000 in
theorem fElements_any {b be : Nat} (hc : w.cell? ⟨be, 0, none⟩ = some (.pointer (some ⟨b, 0, none⟩))) : Calls Tryz.prog 100 #[.pointer (some ⟨be, 0, none⟩)] w fun e w' =>
    e = .returned (.map (some w.heap.size)) ∧ MapS w' w.heap.size (fiKey b be) ∧ Kn w w' ∧ w.heap.size < w'.heap.size := by
  have hbe : be < w.heap.size := World.block_lt_of_cell? w ⟨be, 0, none⟩ hc
  have hc2 : (w.alloc (.map #[] 0)).cell? ⟨be, 0, none⟩ = some (.pointer (some ⟨b, 0, none⟩)) := (World.cell?_of_block (a := ⟨be, 0, none⟩) (Below.heap_alloc _ _ be hbe)).trans hc
  have hm0 : MapS (w.alloc (.map #[] 0)) w.heap.size [] := ⟨#[], 0, heap_alloc_new w _, rfl⟩
  have hmk : (Instr.makeMap 158 none).run Tryz.prog w = .ok (.map (some w.heap.size)) (w.alloc (.map #[] 0)) := rfl
  go_enter Tryz.func100, Tryz.ntmps100
  go_wp2_with (first
    | (refine wpList_insS rfl _ _ _ 158 rfl 9 1 Tryz.underlying158 Tryz.underlying9 w.heap.size _ rfl hm0 kSemi (.func (.func 147) #[.pointer (some ⟨b, 0, none⟩)] #[]) rfl rfl (by rfl) ?_; intro w1 hm1 hg1)
    | (refine wpList_insS rfl _ _ _ 158 rfl 9 1 Tryz.underlying158 Tryz.underlying9 w.heap.size _ rfl hm1 kPkg (.func (.func 148) #[.pointer (some ⟨be, 0, none⟩)] #[]) rfl rfl (by rfl) ?_; intro w2 hm2 hg2)
    | (refine wpList_insS rfl _ _ _ 158 rfl 9 1 Tryz.underlying158 Tryz.underlying9 w.heap.size _ rfl hm2 kImp (.func (.func 149) #[.pointer (some ⟨be, 0, none⟩)] #[]) rfl rfl (by rfl) ?_; intro w3 hm3 hg3)
    | (refine wpList_insS rfl _ _ _ 158 rfl 9 1 Tryz.underlying158 Tryz.underlying9 w.heap.size _ rfl hm3 kMsg (.func (.func 150) #[.pointer (some ⟨be, 0, none⟩)] #[]) rfl rfl (by rfl) ?_; intro w4 hm4 hg4)
    | (refine wpList_insS rfl _ _ _ 158 rfl 9 1 Tryz.underlying158 Tryz.underlying9 w.heap.size _ rfl hm4 kEnum (.func (.func 151) #[.pointer (some ⟨be, 0, none⟩)] #[]) rfl rfl (by rfl) ?_; intro w5 hm5 hg5)
    | (refine wpList_insS rfl _ _ _ 158 rfl 9 1 Tryz.underlying158 Tryz.underlying9 w.heap.size _ rfl hm5 kSvc (.func (.func 152) #[.pointer (some ⟨be, 0, none⟩)] #[]) rfl rfl (by rfl) ?_; intro w6 hm6 hg6))
  have hsz : w.heap.size < (w.alloc (.map #[] 0)).heap.size := by simp
  have hg : (w.alloc (.map #[] 0)).grownBy w6 (some w.heap.size) := grownBy_trans hg1 (grownBy_trans hg2 (grownBy_trans hg3 (grownBy_trans hg4 (grownBy_trans hg5 hg6))))
  have hk : Kn w w6 := ((Kp.refl (fun _ => False) w).alloc (.map #[] 0)).grown hg (fun k e hk => by injection e with e; omega)
  exact bodyPost_ret (v := .map (some w.heap.size)) (by simp [results, Tryz.results100, go_sem]) rfl ⟨rfl, hm6, hk, Nat.lt_of_lt_of_le hsz hg.size⟩
end
end
end Go.Proofs.YthmdaejlopjjoaaGreatDoor
