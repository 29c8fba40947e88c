/-
  tree: an enum's value.
-/
import Derived.Test.YthmdaejlopjjoaaGreatDoorPaB
namespace Go.Proofs.YthmdaejlopjjoaaGreatDoor
open Go.RowKit
set_option linter.unusedVariables false
set_option linter.unusedSimpArgs false

theorem far3 {W : World} {q i : Nat} {k : Nat} (h : q ≠ k) (u1 u2 u3 : Value) : (((W.setCell ⟨k, 0, none⟩ u1).setCell ⟨k, 1, none⟩ u2).setCell ⟨k, 2, none⟩ u3).cell? ⟨q, i, none⟩ = W.cell? ⟨q, i, none⟩ :=
  World.cell?_of_block ((Below.heap_setCell _ _ _ _ h).trans ((Below.heap_setCell _ _ _ _ h).trans (Below.heap_setCell _ _ _ _ h)))
section
variable {w : World} {b g : Nat} {cur : Array Value} {l : List Wd}
set_option maxRecDepth 100000 in
set_option maxHeartbeats 8000000 in
theorem value_any {be B : Nat} {x : En} {v1 v2 v3 : Value} {C : List Nat} (h : Es w b g cur be B x v1 v2 v3 C l) :
    Calls Tryz.prog 204 #[.pointer (some ⟨be, 0, none⟩)] w (PzQ (roomP x.vals.length 64 l ((valP l).and fun v l => .ok { x with vals := x.vals ++ [v] } l)) (Kd b be B w) (EsK w b g cur be B)) := by
  obtain ⟨i0, hi0, hz0, hz1, hz2⟩ := info_parts Tryz.info55
  obtain ⟨R, hR⟩ : ∃ R, R = roomP x.vals.length 64 l ((valP l).and fun v l => .ok { x with vals := x.vals ++ [v] } l) := ⟨_, rfl⟩
  rw [← hR]
  unfold roomP valP at hR
  have HR := Lib.hid hR
  have H := Lib.hid h
  have HM := Lib.hid (room_any h.drew.ps x.vals.length 64)
  obtain ⟨A1, c1, hv1, hc1, hc2⟩ := h.rows.val (j := 0) rfl
  simp only at hv1 hc1
  subst hv1
  obtain ⟨d0, d3, -, -, y3, -, -, hlt⟩ := h.cells
  clear h hR
  go_enter Tryz.func204, Tryz.ntmps204
  go_wp2_with fail
  go_still_tail 10, (by kernel_rfl)
  change wpList _ _ _ _ _ w.drew
  go_wp2_with fail
  refine HM.out.mono ?_
  rintro e w1 ⟨h1, hk1⟩
  have HK1 := Lib.hid (show Kn w w1 from (Kp.refl _ w).drew.trans hk1)
  have HE1 := Lib.hid (H.out.drew.kn hk1)
  clear hk1
  rcases h1 with ⟨hge, rfl⟩ | ⟨hlt4, rfl⟩
  · have HR2 := Lib.hid (show R = .no (hdW l).p 5 by rw [HR.out, if_pos hge])
    clear HM hge HR
    unfold Stp stopV
    go_wp2_with fail
    rw [HR2.out]
    exact ⟨rfl, rfl, Kn.kd HK1.out⟩
  · have hR2 := HR.out
    rw [if_neg hlt4] at hR2
    have HR2 := Lib.hid hR2
    have hal : x.vals.length ≤ 1000000 := by omega
    obtain ⟨e0, -, -, -, -, -, -, elt⟩ := HE1.out.cells
    have HO := Lib.hid (of_any HE1.out.ps 1 (by decide))
    clear HR hR2 hlt4 HM H d0 d3 y3
    go_wp2_with fail
    refine HO.out.mono ?_
    intro e w2 hq
    cases hr : ofP 1 l with
    | no q c =>
      rw [hr] at hq
      obtain ⟨rfl, hk⟩ := hq
      have HK2 := Lib.hid ((Kn.kb HK1.out b).trans hk)
      have HR3 := Lib.hid (show R = .no q c by rw [HR2.out, hr]; rfl)
      clear hk hr HR2 HO
      unfold Stp stopV
      go_wp2_with fail
      rw [HR3.out]
      exact ⟨rfl, rfl, Kp.kd HK2.out⟩
    | ok y l2 =>
      rw [hr] at hq
      obtain ⟨v, rfl, rfl, rfl, rfl, hp, hk⟩ := hq
      have hR3 := HR2.out
      rw [hr] at hR3
      simp only [Pz.and] at hR3
      have HR3 := Lib.hid hR3
      have HV := Lib.hid (show Ev w (w2.alloc (.cells #[.int .i64 (hdW l).k, .int .i64 (hdW l).p, .string (hdW l).t, .int .i64 (hdW l).n] 73)) b g cur be B x (.slice A1 x.vals.length c1) v2 v3 C l.tail w2.heap.size (hdW l) from
        ⟨(HE1.out.next hp hk).alloc _, ((Kn.kb HK1.out b).trans hk).alloc _, Blk.new w2 73 _, by have := HE1.out.blk.lt; have := hk.size; omega⟩)
      generalize hy : hdW l = y at *
      obtain ⟨d0, -, -, -, -, -, -, dlt⟩ := (HE1.out.next hp hk).cells
      clear hk hr HR2 HO hp hR3 HE1 e0
      unfold wV
      go_wp2_with fail
      have HX := Lib.hid (exp_at [kEq] #[.string kEq] 1 rfl rfl (by decide) (by decide) HV.out.es.ps)
      rw [World.size_alloc] at HX
      refine HX.out.mono ?_
      intro e w3 hq
      clear d0
      cases hr : expP [kEq] l.tail with
      | no q c =>
        rw [hr] at hq
        obtain ⟨rfl, hk⟩ := hq
        have HK3 := Lib.hid (HV.out.kp.trans hk)
        have HR4 := Lib.hid (show R = .no q c by rw [HR3.out, hr])
        clear hk hr HR3 HX
        unfold Stp stopV
        go_wp2_with fail
        rw [HR4.out]
        exact ⟨rfl, rfl, Kp.kd HK3.out⟩
      | ok u l3 =>
        rw [hr] at hq
        obtain ⟨v, rfl, rfl, hp, hk⟩ := hq
        have hR4 := HR3.out
        rw [hr] at hR4
        simp only [Pz.and] at hR4
        have HR4 := Lib.hid hR4
        have HV3 := Lib.hid (HV.out.next hp hk)
        clear hk hr HR3 HX hp hR4 HV
        obtain ⟨d0, -, -, -, -, -, -, dlt2⟩ := HV3.out.es.cells
        obtain ⟨-, m1, m2, -, -, -, -, -⟩ := HV3.out.bl.four_
        have HN := Lib.hid fun (W : World) (h : Ev w W b g cur be B x (.slice A1 x.vals.length c1) v2 v3 C l3 w2.heap.size y) => number_any h.es.ps true
        generalize w2.heap.size = q at *
        have HN2 := Lib.hid fun (W : World) (h : Ev w W b g cur be B x (.slice A1 x.vals.length c1) v2 v3 C l3 q y) => (show Calls Tryz.prog 233 #[.pointer (some ⟨b, 0, none⟩), .bool true] W (fun e w' => (∃ n l4, numP true l3 = .ok n l4 ∧ e = .returned (.int .i64 n) ∧ Ev w w' b g cur be B x (.slice A1 x.vals.length c1) v2 v3 C l4 q y ∧ Kb b W w') ∨ (∃ p c, numP true l3 = .no p c ∧ e = Stp p c ∧ Kb b w w')) from (HN.out W h).mono fun e w' h' => by
          cases hr : numP true l3 with
          | no p c =>
            rw [hr] at h'
            exact .inr ⟨p, c, rfl, h'.1, h.kp.trans h'.2⟩
          | ok n l4 =>
            rw [hr] at h'
            obtain ⟨v, rfl, rfl, hp, hk, _⟩ := h'
            exact .inl ⟨n, l4, rfl, rfl, h.next hp hk, hk⟩)
        have HPO := Lib.hid fun (w4 : World) (p c : Nat) (hr : numP true l3 = .no p c) (hk : Kb b w w4) => (show PzQ R (Kd b be B w) (EsK w b g cur be B) (Stp p c) w4 by rw [HR4.out, hr]; exact ⟨rfl, Kp.kd hk⟩)
        clear HN
        go_wp2_with fail
        go_cut [3] (fun v wx => ∃ (q2 : Nat) (n : Int) (l4 : List Wd), numP true l3 = .ok n l4 ∧ v = .pointer (some ⟨q2, 0, none⟩) ∧ Ev w wx b g cur be B x (.slice A1 x.vals.length c1) v2 v3 C l4 q y ∧ Blk wx q2 55 #[.string y.t, .int .i64 n, .int .i64 y.p] ∧ be < q2)
        case first =>
          clear hc1 hc2 hlt elt dlt hi0 hz0 hz1 hz2 HK1
          have hql := HV3.out.bl.lt
          have hnb3 : ¬ be = w3.heap.size := by omega
          have hnq3 : ¬ q = w3.heap.size := by omega
          have hne : w3.heap.size ≠ b := by have := HV3.out.es.ps.lt; omega
          go_region_held2 (fun w' => w'.cell? ⟨be, 0, none⟩ = some (.pointer (some ⟨b, 0, none⟩)) ∧ w'.cell? ⟨q, 1, none⟩ = some (.int .i64 y.p) ∧ w'.cell? ⟨q, 2, none⟩ = some (.string y.t)) (first | exact ⟨d0, m1, m2⟩ | assumption | exact ⟨(far3 hnb3 _ _ _).trans d0', (far3 hnq3 _ _ _).trans m1', (far3 hnq3 _ _ _).trans m2'⟩ | go_keep) (first
            | (go_at_call 233; refine (HN2.out _ (HV3.out.drew.alloc (.cells #[.string ⟨#[]⟩, .int .i64 0, .int .i64 0] 55))).mono ?_; rintro e w4 (⟨n, l4, hn, rfl, hv4, hkk⟩ | ⟨p, c, hn, rfl, hk4⟩); rotate_left 1; exact ⟨rfl, HPO.out w4 p c hn hk4⟩; have HV4 := Lib.hid hv4; have HN4 := Lib.hid hn; obtain ⟨d0', -, -, -, -, -, -, dlt'⟩ := hv4.es.cells; obtain ⟨-, m1', m2', -, -, -, -, -⟩ := hv4.bl.four_; have hql' := hv4.bl.lt; have hnb4 : be ≠ w4.heap.size := Nat.ne_of_lt dlt'; have hnq4 : q ≠ w4.heap.size := Nat.ne_of_lt hql'; have hS4 : w4.cell? ⟨be, 0, none⟩ = some (.pointer (some ⟨b, 0, none⟩)) ∧ w4.cell? ⟨q, 1, none⟩ = some (.int .i64 y.p) ∧ w4.cell? ⟨q, 2, none⟩ = some (.string y.t) := ⟨d0', m1', m2'⟩; have hzb : Blk w4 w3.heap.size 55 #[.string ⟨#[]⟩, .int .i64 0, .int .i64 0] := Blk.kp (Blk.new w3.drew 55 _) hkk hne; have HZB := Lib.hid hzb; obtain ⟨z0, z1, z2, zf0, zf1, zf2⟩ := hzb.three_; have hzl := hzb.lt; clear hv4 hn hkk hzb)
            | (go_at_call 233; refine (HN2.out _ HV3.out.drew).mono ?_; rintro e w4 (⟨n, l4, hn, rfl, hv4, hkk⟩ | ⟨p, c, hn, rfl, hk4⟩); rotate_left 1; exact ⟨rfl, HPO.out w4 p c hn hk4⟩; have HV4 := Lib.hid hv4; have HN4 := Lib.hid hn; obtain ⟨d0', -, -, -, -, -, -, dlt'⟩ := hv4.es.cells; obtain ⟨-, m1', m2', -, -, -, -, -⟩ := hv4.bl.four_; have hql' := hv4.bl.lt; have hnb4 : be ≠ w4.heap.size := Nat.ne_of_lt dlt'; have hnq4 : q ≠ w4.heap.size := Nat.ne_of_lt hql'; have hS4 : w4.cell? ⟨be, 0, none⟩ = some (.pointer (some ⟨b, 0, none⟩)) ∧ w4.cell? ⟨q, 1, none⟩ = some (.int .i64 y.p) ∧ w4.cell? ⟨q, 2, none⟩ = some (.string y.t) := ⟨d0', m1', m2'⟩; clear hv4 hn hkk))
          · go_wp2_with fail
            go_meet
            exact ⟨w4.heap.size, n, l4, HN4.out, rfl, HV4.out.alloc _, Blk.new w4 55 _, dlt'⟩
          · go_wp2_with fail
            go_meet
            exact ⟨w3.heap.size, n, l4, HN4.out, rfl, HV4.out.put3 hne.symm (by have := HV3.out.es.ps.gb.lt; omega) hnb3 hnq3 (fun i hi => (HV3.out.es.rows.all_lt i hi).2) HV3.out.kp.size _ _ _, HZB.out.put3 _ _ _, dlt2⟩
        case rest =>
          obtain ⟨q2, n, l4, hn, rfl, hv, hz, hq2⟩ := hcut
          have HV4 := Lib.hid hv
          have HZ := Lib.hid hz
          have hR5 := HR4.out
          rw [hn] at hR5
          simp only [Pz.and] at hR5
          have HR5 := Lib.hid hR5
          clear hv hz hn hR5 HR4 HV3 HN2 HPO d0 m1 m2
          obtain ⟨d0, -, -, -, -, -, -, dlt4⟩ := HV4.out.es.cells
          go_wp2_with fail
          refine (exp_at [kSemi] #[.string kSemi] 1 rfl rfl (by decide) (by decide) HV4.out.es.ps).mono ?_
          intro e w5 hq
          clear d0
          cases hr : expP [kSemi] l4 with
          | no p c =>
            rw [hr] at hq
            obtain ⟨rfl, hk⟩ := hq
            have HK5 := Lib.hid (HV4.out.kp.trans hk)
            have HR6 := Lib.hid (show R = .no p c by rw [HR5.out, hr])
            clear hk hr HR5
            unfold Stp stopV
            go_wp2_with fail
            rw [HR6.out]
            exact ⟨rfl, rfl, Kp.kd HK5.out⟩
          | ok u l5 =>
            rw [hr] at hq
            obtain ⟨v, rfl, rfl, hp, hk⟩ := hq
            have HR6 := Lib.hid (show R = .ok { x with vals := x.vals ++ [⟨y.t, n, y.p⟩] } l5 by rw [HR5.out, hr])
            have HV5 := Lib.hid (HV4.out.next hp hk)
            have hz5 := HZ.out.kp hk (by have := HV4.out.es.lb; omega)
            clear hk hr HR5 hp HV4 HZ
            obtain ⟨d0, d3, -, -, y3, -, -, dlt5⟩ := HV5.out.es.cells
            obtain ⟨m0, m1, m2, -, -, -⟩ := hz5.three_
            have HZ5 := Lib.hid hz5
            have hBz : B ≤ (w5.drew.alloc (.cells #[.string y.t, .int .i64 n, .int .i64 y.p] 55)).heap.size := by rw [World.size_alloc]; show _ ≤ w5.heap.size + 1; have := HV5.out.es.sz; omega
            have HBZ := Lib.hid hBz
            clear hBz
            clear hz5
            go_wp2_with fail
            go_region_law (first
              | (refine step_append_rows _ (by rfl) _ _ 50 (by rfl) (HV5.out.drew.alloc (.cells #[.string y.t, .int .i64 n, .int .i64 y.p] 55)).es.rows 0 (rwVl x.vals (.slice A1 x.vals.length c1)) (by rfl) i0 _ 32 Tryz.underlying50 hi0 hz0 hz1 hz2 (by rfl) (Nat.succ_pos 2) (by rfl) w5.heap.size (by rfl) _ (Vl.dv ⟨y.t, n, y.p⟩) (Blk.new w5.drew 55 _) (by rfl) (Vl.mem _ B ⟨y.t, n, y.p⟩) (by intro q hq; cases hq) hal (by decide) HBZ.out ?_; intro v6 w6 ho6 hg6 hv6; have HO6 := Lib.hid ho6; have HG6 := Lib.hid hg6; have HB6 := Lib.hid (Blk.kp (HV5.out.drew.alloc (.cells #[.string y.t, .int .i64 n, .int .i64 y.p] 55)).es.blk (Kp.of_grown hg6) (fun e => by have := ((HV5.out.drew.alloc (.cells #[.string y.t, .int .i64 n, .int .i64 y.p] 55)).es.rows.own_mem (j := 0) rfl e.symm).2.1; have := HV5.out.es.lB; omega)); obtain ⟨A6, c6, e6, -, -⟩ := ho6.val (j := 0) rfl; simp only at e6; subst e6; have f3 : w6.frozen? ⟨be, 3, none⟩ = false := HB6.out.frozen 3; have q3 : w6.cell? ⟨be, 3, none⟩ = some (.slice A1 x.vals.length c1) := HB6.out.cell 3; clear ho6 hg6 hv6))
            all_goals
              rw [HR6.out]
              go_end0
              have hne : be ≠ b := by have := HV5.out.es.lb; omega
              have hng : be ≠ g := by have := HV5.out.es.lg; omega
              have hown : ∀ i, (Value.slice A1 x.vals.length c1).ownBlock = some i → B ≤ i := fun i hi => (HV5.out.es.rows.own_mem (j := 0) rfl hi).2.1
              have h6 := HO6.out
              rw [List.append_nil, rwVl_snoc x.vals ⟨y.t, n, y.p⟩ (.slice none 0 0) _] at h6
              have hp6 : Ps w6 b g cur l5 := (HV5.out.drew.alloc _).es.ps.kp (Kp.of_grown HG6.out) (fun e => by have := hown b e.symm; have := HV5.out.es.lb; have := HV5.out.es.lB; omega) (fun e => by have := hown g e.symm; have := HV5.out.es.lg; have := HV5.out.es.lB; omega)
              have hk6 : Kd b be B w w6 := (Kp.kd (HV5.out.drew.alloc (.cells #[.string y.t, .int .i64 n, .int .i64 y.p] 55)).kp : Kd b be B w _).grown HG6.out fun i hi _ => .inr (.inr (hown i hi))
              refine ⟨_, rfl, rfl, ⟨.slice A6 (x.vals.length + 1) c6, v2, v3, C, hp6.far hne hng _, ?_, ?_, HV5.out.es.lb, HV5.out.es.lg, HV5.out.es.lB, by simpa using Nat.le_trans HV5.out.es.sz (show w5.heap.size ≤ w6.heap.size by have := HG6.out.size; simp at this; exact Nat.le_of_succ_le this)⟩, hk6.setCell (fun _ => .inr (.inl rfl)) _⟩
              · exact HB6.out.set_ 3 _
              · exact Rows_.setCell h6 HV5.out.es.lB _
end
end Go.Proofs.YthmdaejlopjjoaaGreatDoor
