/-
  tree: an import.
-/
import Derived.Test.YthmdaejlopjjoaaGreatDoorMsD
namespace Go.Proofs.YthmdaejlopjjoaaGreatDoor
open Go.RowKit
set_option linter.unusedVariables false
set_option linter.unusedSimpArgs false

theorem Im.mem (w : World) (B : Nat) (x : Im) : MemL w B x.dv #[.string x.path, .bool x.pub, .int .i64 x.at_].toList [] :=
  MemL.plain w B [.string x.path, .bool x.pub, .int .i64 x.at_] (by simp [Value.oneCell'])
section
variable {w : World} {b g : Nat} {cur : Array Value} {l : List Wd}
theorem takes_b (h : Ps w b g cur l) (s : ByteArray) (hs : s ≠ ⟨#[]⟩) : Calls Tryz.prog 145 #[.pointer (some ⟨b, 0, none⟩), .string s] w fun e w' => e = .returned (.bool (decide (sayW l = s))) ∧ Ps w' b g cur (if sayW l = s then l.tail else l) ∧ Kb b w w' := by
  refine (takes_any h s hs).mono ?_
  rintro e w' ⟨h1, hk⟩
  rcases h1 with ⟨hq, rfl, hp, -⟩ | ⟨hq, rfl, hp⟩
  · rw [if_pos hq]; exact ⟨by simp [hq], hp, hk⟩
  · rw [if_neg hq]; exact ⟨by simp [hq], hp, hk⟩
set_option maxRecDepth 100000 in
set_option maxHeartbeats 4000000 in
theorem fImported_any (hX : Ext) {be B : Nat} {x : Tr} {V : FV} {C : List Nat} (h : Fg w b g cur be B x V C l) (hk0 : (hdW l).k ≠ 0) :
    Calls Tryz.prog 149 #[.pointer (some ⟨be, 0, none⟩)] w (PzQ (roomP x.imps.length 16 l ((impP l).and fun y l => .ok { x with imps := x.imps ++ [y] } l)) (Kd b be B w) (FgK w b g cur be B)) := by
  obtain ⟨i0, hi0, hz0, hz1, hz2⟩ := info_parts Tryz.info37
  rcases V with ⟨vi, vm, ve, vz⟩
  obtain ⟨R, hR⟩ : ∃ R, R = roomP x.imps.length 16 l ((impP l).and fun y l => Pz.ok { x with imps := x.imps ++ [y] } l) := ⟨_, rfl⟩
  rw [← hR]
  unfold roomP impP at hR
  have HR := Lib.hid hR
  have HM := Lib.hid (room_any h.drew.ps x.imps.length 16)
  obtain ⟨A1, c1, hv1, -, -⟩ := h.rows.val (j := 0) rfl
  simp only at hv1
  subst hv1
  have H := Lib.hid h
  obtain ⟨d0, hlt⟩ := h.ptr
  have d4 : w.cell? ⟨be, 2, none⟩ = some (.slice A1 x.imps.length c1) := h.blk.cell 2
  clear h hR
  go_enter Tryz.func149, Tryz.ntmps149
  go_wp2_with fail
  go_still_tail 10, (by kernel_rfl)
  change wpList _ _ _ _ _ w.drew
  go_wp2_with fail
  refine HM.out.mono ?_
  rintro e w1 ⟨h1, hk1⟩
  have HK1 := Lib.hid (show Kn w w1 from (Kp.refl _ w).drew.trans hk1)
  have HE1 := Lib.hid (H.out.drew.kn hk1)
  clear hk1 d0 d4
  rcases h1 with ⟨hge, rfl⟩ | ⟨hlt4, rfl⟩
  · have HR2 := Lib.hid (show R = .no (hdW l).p 5 by rw [HR.out, if_pos hge])
    clear HM hge HR
    unfold Stp stopV
    go_wp2_with fail
    rw [HR2.out]
    exact ⟨rfl, rfl, Kn.kd HK1.out⟩
  · have hR2 := HR.out
    rw [if_neg hlt4] at hR2
    have HR2 := Lib.hid hR2
    have hal : x.imps.length ≤ 1000000 := by omega
    obtain ⟨d0, elt⟩ := HE1.out.ptr
    have HO := Lib.hid (pass_any HE1.out.ps hk0)
    clear HR hR2 hlt4 HM
    go_wp2_with fail
    refine HO.out.mono ?_
    rintro e w2 ⟨rfl, hp, hk⟩
    have HE2 := Lib.hid (HE1.out.next hp hk)
    have HK2 := Lib.hid ((Kn.kb HK1.out b).trans hk)
    clear HO hp hk HE1 d0
    obtain ⟨d0, dlt⟩ := HE2.out.ptr
    have HT := Lib.hid (takes_b HE2.out.ps kPub (by decide))
    unfold wV
    go_wp2_with fail
    refine HT.out.mono ?_
    rintro e w3 ⟨rfl, hp, hk⟩
    have HE3 := Lib.hid (HE2.out.next hp hk)
    have HK3 := Lib.hid (HK2.out.trans hk)
    obtain ⟨pb, hpb⟩ : ∃ pb, pb = decide (sayW l.tail = kPub) := ⟨_, rfl⟩
    obtain ⟨l2, hl2⟩ : ∃ l2, l2 = if sayW l.tail = kPub then l.tail.tail else l.tail := ⟨_, rfl⟩
    have hR3 := HR2.out
    rw [← hpb, ← hl2] at hR3
    rw [← hpb]
    rw [← hl2] at HE3
    have HR3 := Lib.hid hR3
    clear HT hp hk HE2 HK2 HK1 d0 dlt elt hR3 HR2 hpb hl2
    obtain ⟨d0, dlt⟩ := HE3.out.ptr
    have HL := Lib.hid (literal_any HE3.out.ps 12 (by decide) (fun s => pathL s.data.toList) hX.path)
    go_wp2_with fail
    refine HL.out.mono ?_
    intro e w4 hq
    clear d0
    cases hr : litP (fun s => pathL s.data.toList) l2 with
    | no p c =>
      rw [hr] at hq
      obtain ⟨rfl, hk⟩ := hq
      have HK4 := Lib.hid (HK3.out.trans hk)
      have HR4 := Lib.hid (show R = .no p c by rw [HR3.out, hr]; rfl)
      clear hk hr HR3 HL
      unfold Stp stopV
      go_wp2_with fail
      rw [HR4.out]
      exact ⟨rfl, rfl, Kp.kd HK4.out⟩
    | ok y l3 =>
      rw [hr] at hq
      obtain ⟨v, rfl, rfl, rfl, rfl, hp, hk⟩ := hq
      have hR4 := HR3.out
      rw [hr] at hR4
      simp only [Pz.and] at hR4
      have HR4 := Lib.hid hR4
      have HE4 := Lib.hid ((HE3.out.next hp hk).alloc (.cells #[.int .i64 (hdW l2).k, .int .i64 (hdW l2).p, .string (hdW l2).t, .int .i64 (hdW l2).n] 73))
      have HY := Lib.hid (Blk.new w4 73 #[.int .i64 (hdW l2).k, .int .i64 (hdW l2).p, .string (hdW l2).t, .int .i64 (hdW l2).n])
      have HK4 := Lib.hid ((HK3.out.trans hk).alloc (.cells #[.int .i64 (hdW l2).k, .int .i64 (hdW l2).p, .string (hdW l2).t, .int .i64 (hdW l2).n] 73))
      have hpb : b < w4.heap.size := hp.lt
      generalize hdW l2 = y at *
      generalize l2.tail = l3 at *
      clear hk hr HR3 HL hp hR4 HE3 HK3 dlt
      unfold wV
      have hd4 : (w4.alloc (.cells #[.int .i64 y.k, .int .i64 y.p, .string y.t, .int .i64 y.n] 73)).cell? ⟨be, 0, none⟩ = some (.pointer (some ⟨b, 0, none⟩)) := HE4.out.blk.cell 0
      have hq4 : ∀ o, ((w4.alloc (.cells #[.int .i64 y.k, .int .i64 y.p, .string y.t, .int .i64 y.n] 73)).alloc o).cell? ⟨be, 0, none⟩ = some (.pointer (some ⟨b, 0, none⟩)) := fun o => (HE4.out.alloc o).blk.cell 0
      have HX := Lib.hid (exp_at [kSemi] #[.string kSemi] 1 rfl rfl (by decide) (by decide) HE4.out.ps)
      have hbe4 := HE4.out.blk.lt
      rw [World.size_alloc] at HX
      go_wp2_with fail
      generalize World.alloc w4 _ = wy at *
      generalize w4.heap.size = p1 at *
      refine HX.out.mono ?_
      intro e w5 hq
      clear hd4 hq4
      cases hr : expP [kSemi] l3 with
      | no p c =>
        rw [hr] at hq
        obtain ⟨rfl, hk⟩ := hq
        have HK5 := Lib.hid (HK4.out.trans hk)
        have HR5 := Lib.hid (show R = .no p c by rw [HR4.out, hr]; first | rfl | skip)
        clear hk hr HR4 HX
        unfold Stp stopV
        go_wp2_with fail
        rw [HR5.out]
        exact ⟨rfl, rfl, Kp.kd HK5.out⟩
      | ok u l5 =>
        rw [hr] at hq
        obtain ⟨v, rfl, rfl, hp, hk⟩ := hq
        have hR5 := HR4.out
        rw [hr] at hR5
        simp only [Pz.and] at hR5
        have HR5 := Lib.hid hR5
        have HY5 := Lib.hid (HY.out.kp hk (by omega))
        have HE5 := Lib.hid (HE4.out.next hp hk)
        have HK5 := Lib.hid (HK4.out.trans hk)
        clear hk hr HR4 HX hp hR5 HE4 HY HK4 hbe4
        obtain ⟨-, yc1, yc2, -, -, -, -, -⟩ := HY5.out.four_
        obtain ⟨d0, hlt5⟩ := HE5.out.ptr
        have d4 : w5.cell? ⟨be, 2, none⟩ = some (.slice A1 x.imps.length c1) := HE5.out.blk.cell 2
        have y4 : w5.frozen? ⟨be, 2, none⟩ = false := HE5.out.blk.frozen 2
        have HBZ := Lib.hid (show B ≤ (w5.drew.alloc (.cells #[.string y.t, .bool pb, .int .i64 y.p] 37)).heap.size by rw [World.size_alloc]; show _ ≤ w5.heap.size + 1; have := HE5.out.sz; omega)
        clear d0 HY5
        go_wp2_with fail
        go_region_law (first
          | (refine step_append_rows _ (by rfl) _ _ 22 (by rfl) (HE5.out.drew.alloc (.cells #[.string y.t, .bool pb, .int .i64 y.p] 37)).rows 0 (rwIm x.imps (.slice A1 x.imps.length c1)) (by rfl) i0 _ 32 Tryz.underlying22 hi0 hz0 hz1 hz2 (by rfl) (Nat.succ_pos 2) (by rfl) w5.heap.size (by rfl) _ (Im.dv ⟨y.t, pb, y.p⟩) (Blk.new w5.drew 37 _) (by rfl) (Im.mem _ B ⟨y.t, pb, y.p⟩) (by intro q hq; cases hq) hal (by decide) HBZ.out ?_; intro v6 wf ho6 hg6 hv6; have HO6 := Lib.hid ho6; have HG6 := Lib.hid hg6; have HB6 := Lib.hid (Blk.kp (HE5.out.drew.alloc (.cells #[.string y.t, .bool pb, .int .i64 y.p] 37)).blk (Kp.of_grown hg6) (fun e => by have := ((HE5.out.drew.alloc (.cells #[.string y.t, .bool pb, .int .i64 y.p] 37)).rows.own_mem (j := 0) rfl e.symm).2.1; have := HE5.out.lB; omega)); obtain ⟨A6, c6, e6, -, -⟩ := ho6.val (j := 0) rfl; simp only at e6; subst e6; have f3' : wf.frozen? ⟨be, 2, none⟩ = false := HB6.out.frozen 2; have q3' : wf.cell? ⟨be, 2, none⟩ = some (.slice A1 x.imps.length c1) := HB6.out.cell 2; clear ho6 hg6 hv6))
        all_goals
          rw [HR5.out]
          go_end0
          have hne : be ≠ b := by have := HE5.out.lb; omega
          have hng : be ≠ g := by have := HE5.out.lg; omega
          have hown : ∀ i, (Value.slice A1 x.imps.length c1).ownBlock = some i → B ≤ i := fun i hi => (HE5.out.rows.own_mem (j := 0) rfl hi).2.1
          have h6 := HO6.out
          rw [List.append_nil, rwIm_snoc x.imps ⟨y.t, pb, y.p⟩ (.slice none 0 0) _] at h6
          have hp6 : Ps wf b g cur l5 := (HE5.out.drew.alloc _).ps.kp (Kp.of_grown HG6.out) (fun e => by have := hown b e.symm; have := HE5.out.lb; have := HE5.out.lB; omega) (fun e => by have := hown g e.symm; have := HE5.out.lg; have := HE5.out.lB; omega)
          have hk6 : Kd b be B w wf := (Kp.kd (HK5.out.drew.alloc (.cells #[.string y.t, .bool pb, .int .i64 y.p] 37)) : Kd b be B w _).grown HG6.out fun i hi _ => .inr (.inr (hown i hi))
          refine ⟨_, rfl, rfl, ⟨⟨.slice A6 (x.imps.length + 1) c6, vm, ve, vz⟩, C, hp6.far hne hng _, ?_, ?_, HE5.out.lb, HE5.out.lg, HE5.out.lB, by simpa using Nat.le_trans HE5.out.sz (Nat.le_trans (Nat.le_trans (Nat.le_succ _) (Nat.le_of_eq (World.size_alloc w5 (.cells #[.string y.t, .bool pb, .int .i64 y.p] 37)).symm)) HG6.out.size)⟩, hk6.setCell (fun _ => .inr (.inl rfl)) _⟩
          · exact HB6.out.set_ 2 _
          · exact Rows_.setCell h6 HE5.out.lB _
end
end Go.Proofs.YthmdaejlopjjoaaGreatDoor
