/-
  tree: a call of a service.
  tree: an element of a service.
-/
import Derived.Test.YthmdaejlopjjoaaGreatDoorTrP17
namespace Go.Proofs.YthmdaejlopjjoaaGreatDoor
section
open Go.RowKit
set_option linter.unusedVariables false
set_option linter.unusedSimpArgs false

theorem Tryz.info91 : (Tryz.prog.info? 91).map (fun i => (i.zero, i.size, i.bytes)) = some (some (.agg #[.string ⟨#[]⟩, .string ⟨#[]⟩, .string ⟨#[]⟩, .int .i64 0, .int .i64 0, .int .i64 0]), 6, 72) := by kernel_rfl
theorem Tryz.underlying84 : Tryz.prog.underlying 84 = some (.slice 91) := by kernel_rfl
theorem Rp.mem (w : World) (B : Nat) (x : Rp) : MemL w B x.dv #[.string x.name, .string x.inn, .string x.out, .int .i64 x.at_, .int .i64 x.iat, .int .i64 x.oat].toList [] :=
  MemL.plain w B [.string x.name, .string x.inn, .string x.out, .int .i64 x.at_, .int .i64 x.iat, .int .i64 x.oat] (by simp [Value.oneCell'])
/-- A row of calls. -/
abbrev rwRp (a : List Rp) (v : Value) : Rw := ⟨91, 6, a.length, a.flatMap Rp.dv, v⟩
theorem rwRp_snoc (a : List Rp) (x : Rp) (v v' : Value) : (⟨(rwRp a v).t, (rwRp a v).k, (rwRp a v).n + 1, (rwRp a v).cs ++ x.dv, v'⟩ : Rw) = rwRp (a ++ [x]) v' := by
  simp [rwRp]
/-- A service that is being read, in block be. -/
structure Ss (w : World) (b g : Nat) (cur : Array Value) (be B : Nat) (x : Sv) (v1 : Value) (C : List Nat) (l : List Wd) : Prop where
  ps : Ps w b g cur l
  blk : Blk w be 242 #[.pointer (some ⟨b, 0, none⟩), .string x.name, .int .i64 x.at_, v1]
  rows : Rows_ w B [rwRp x.rpcs v1] C
  lb : b < be
  lg : g < be
  lB : be < B
  sz : B ≤ w.heap.size
theorem Ss.next {w w' : World} {b g be B : Nat} {cur : Array Value} {x : Sv} {v1 : Value} {C : List Nat} {l l' : List Wd} (h : Ss w b g cur be B x v1 C l) (hp : Ps w' b g cur l') (hk : Kb b w w') : Ss w' b g cur be B x v1 C l' :=
  ⟨hp, h.blk.kp hk (by have := h.lb; omega), h.rows.kp hk (fun q e => by have := h.lb; have := h.lB; omega), h.lb, h.lg, h.lB, Nat.le_trans h.sz hk.size⟩
theorem Ss.kn {w w' : World} {b g be B : Nat} {cur : Array Value} {x : Sv} {v1 : Value} {C : List Nat} {l : List Wd} (h : Ss w b g cur be B x v1 C l) (hk : Kn w w') : Ss w' b g cur be B x v1 C l := h.next (h.ps.kn hk) (Kn.kb hk b)
theorem Ss.alloc {w : World} {b g be B : Nat} {cur : Array Value} {x : Sv} {v1 : Value} {C : List Nat} {l : List Wd} (h : Ss w b g cur be B x v1 C l) (o : Obj) : Ss (w.alloc o) b g cur be B x v1 C l := h.kn ((Kp.refl _ w).alloc o)
theorem Ss.drew {w : World} {b g be B : Nat} {cur : Array Value} {x : Sv} {v1 : Value} {C : List Nat} {l : List Wd} (h : Ss w b g cur be B x v1 C l) : Ss w.drew b g cur be B x v1 C l := h.kn (Kp.refl _ w).drew
theorem Ss.cells {w : World} {b g be B : Nat} {cur : Array Value} {x : Sv} {v1 : Value} {C : List Nat} {l : List Wd} (h : Ss w b g cur be B x v1 C l) :
    w.cell? ⟨be, 0, none⟩ = some (.pointer (some ⟨b, 0, none⟩)) ∧ w.cell? ⟨be, 3, none⟩ = some v1 ∧ w.frozen? ⟨be, 3, none⟩ = false ∧ be < w.heap.size :=
  ⟨h.blk.cell 0, h.blk.cell 3, h.blk.frozen 3, h.blk.lt⟩
/-- What an element of a service leaves. -/
def SsK (w : World) (b g : Nat) (cur : Array Value) (be B : Nat) : Sv → List Wd → Value → World → Prop :=
  fun x l v w' => v = .tuple #[] ∧ (∃ v1 C, Ss w' b g cur be B x v1 C l) ∧ Kd b be B w w'
/-- A block beside a service that is being read. -/
structure Sr (w0 w : World) (b g : Nat) (cur : Array Value) (be B : Nat) (x : Sv) (v1 : Value) (C : List Nat) (l : List Wd) (q : Nat) (t : TypeId) (cs : Array Value) : Prop where
  es : Ss w b g cur be B x v1 C l
  kp : Kb b w0 w
  bl : Blk w q t cs
  qb : be < q
  qr : ∀ i, i ∈ owns [rwRp x.rpcs v1] ∨ i ∈ C → i < q
  q0 : w0.heap.size ≤ q
theorem Sr.next {w0 w w' : World} {b g be B : Nat} {cur : Array Value} {x : Sv} {v1 : Value} {C : List Nat} {l l' : List Wd} {q : Nat} {t : TypeId} {cs : Array Value} (h : Sr w0 w b g cur be B x v1 C l q t cs) (hp : Ps w' b g cur l') (hk : Kb b w w') : Sr w0 w' b g cur be B x v1 C l' q t cs :=
  ⟨h.es.next hp hk, h.kp.trans hk, h.bl.kp hk (by have := h.qb; have := h.es.lb; omega), h.qb, h.qr, h.q0⟩
theorem Sr.kn {w0 w w' : World} {b g be B : Nat} {cur : Array Value} {x : Sv} {v1 : Value} {C : List Nat} {l : List Wd} {q : Nat} {t : TypeId} {cs : Array Value} (h : Sr w0 w b g cur be B x v1 C l q t cs) (hk : Kn w w') : Sr w0 w' b g cur be B x v1 C l q t cs := h.next (h.es.ps.kn hk) (Kn.kb hk b)
theorem Sr.set {w0 w : World} {b g be B : Nat} {cur : Array Value} {x : Sv} {v1 : Value} {C : List Nat} {l : List Wd} {q : Nat} {t : TypeId} {cs : Array Value} (h : Sr w0 w b g cur be B x v1 C l q t cs) (i : Nat) (u : Value) : Sr w0 (w.setCell ⟨q, i, none⟩ u) b g cur be B x v1 C l q t (cs.setIfInBounds i u) :=
  ⟨⟨h.es.ps.far (by have := h.qb; have := h.es.lb; show q ≠ b; omega) (by have := h.qb; have := h.es.lg; show q ≠ g; omega) _, h.es.blk.far (by have := h.qb; show be ≠ q; omega) _, h.es.rows.keep (by simp) (fun k hk => Below.heap_setCell w ⟨q, i, none⟩ u k (by have := h.qr k hk; show k ≠ q; omega)), h.es.lb, h.es.lg, h.es.lB, by simpa using h.es.sz⟩,
   h.kp.setCell (fun hlt => by have := h.q0; have h2 : q < w0.heap.size := hlt; omega) _, h.bl.set_ i u, h.qb, h.qr, h.q0⟩
theorem Blk.six_ {w : World} {q : Nat} {t : TypeId} {a1 a2 a3 a4 a5 a6 : Value} (h : Blk w q t #[a1, a2, a3, a4, a5, a6]) : (w.cell? ⟨q, 0, none⟩ = some a1 ∧ w.cell? ⟨q, 1, none⟩ = some a2 ∧ w.cell? ⟨q, 2, none⟩ = some a3 ∧ w.cell? ⟨q, 3, none⟩ = some a4 ∧ w.cell? ⟨q, 4, none⟩ = some a5 ∧ w.cell? ⟨q, 5, none⟩ = some a6) ∧
    w.frozen? ⟨q, 0, none⟩ = false ∧ w.frozen? ⟨q, 1, none⟩ = false ∧ w.frozen? ⟨q, 2, none⟩ = false ∧ w.frozen? ⟨q, 3, none⟩ = false ∧ w.frozen? ⟨q, 4, none⟩ = false ∧ w.frozen? ⟨q, 5, none⟩ = false :=
  ⟨⟨h.cell 0, h.cell 1, h.cell 2, h.cell 3, h.cell 4, h.cell 5⟩, h.frozen 0, h.frozen 1, h.frozen 2, h.frozen 3, h.frozen 4, h.frozen 5⟩
section
variable {w : World} {b g : Nat} {cur : Array Value} {l : List Wd}
set_option maxRecDepth 100000 in
set_option maxHeartbeats 2000000 in
theorem rpc_any {be B : Nat} {x : Sv} {v1 : Value} {C : List Nat} (h : Ss w b g cur be B x v1 C l) (hk0 : (hdW l).k ≠ 0) :
    Calls Tryz.prog 205 #[.pointer (some ⟨be, 0, none⟩)] w (PzQ (roomP x.rpcs.length 64 l ((rpcP l.tail).and fun r l => .ok { x with rpcs := x.rpcs ++ [r] } l)) (Kd b be B w) (SsK w b g cur be B)) := by
  obtain ⟨i0, hi0, hz0, hz1, hz2⟩ := info_parts Tryz.info91
  obtain ⟨R, hR⟩ : ∃ R, R = roomP x.rpcs.length 64 l ((rpcP l.tail).and fun r l => .ok { x with rpcs := x.rpcs ++ [r] } l) := ⟨_, rfl⟩
  rw [← hR]
  unfold roomP rpcP at hR
  have HR := Lib.hid hR
  have H := Lib.hid h
  have HM := Lib.hid (room_any h.drew.ps x.rpcs.length 64)
  obtain ⟨A1, c1, hv1, -, -⟩ := h.rows.val (j := 0) rfl
  simp only at hv1
  subst hv1
  obtain ⟨d0, d3, -, hlt⟩ := h.cells
  clear h hR
  go_enter Tryz.func205, Tryz.ntmps205
  go_wp2_with fail
  go_still_tail 10, (by kernel_rfl)
  change wpList _ _ _ _ _ w.drew
  go_wp2_with fail
  refine HM.out.mono ?_
  rintro e w1 ⟨h1, hk1⟩
  have HK1 := Lib.hid (show Kn w w1 from (Kp.refl _ w).drew.trans hk1)
  have HE1 := Lib.hid (H.out.drew.kn hk1)
  clear hk1
  rcases h1 with ⟨hge, rfl⟩ | ⟨hlt4, rfl⟩
  · have HR2 := Lib.hid (show R = .no (hdW l).p 5 by rw [HR.out, if_pos hge])
    clear HM hge HR
    unfold Stp stopV
    go_wp2_with fail
    rw [HR2.out]
    exact ⟨rfl, rfl, Kn.kd HK1.out⟩
  · have hR2 := HR.out
    rw [if_neg hlt4] at hR2
    have HR2 := Lib.hid hR2
    have hal : x.rpcs.length ≤ 1000000 := by omega
    obtain ⟨e0, -, -, elt⟩ := HE1.out.cells
    have HO := Lib.hid (pass_any HE1.out.ps hk0)
    clear HR hR2 hlt4 HM d0 d3
    go_wp2_with fail
    refine HO.out.mono ?_
    rintro e w2 ⟨rfl, hp, hk⟩
    have HE2 := Lib.hid (HE1.out.next hp hk)
    have HK2 := Lib.hid ((Kn.kb HK1.out b).trans hk)
    clear HO hp hk HE1 e0
    obtain ⟨d0, -, -, dlt⟩ := HE2.out.cells
    have HO := Lib.hid (of_any HE2.out.ps 1 (by decide))
    unfold wV
    go_wp2_with fail
    refine HO.out.mono ?_
    intro e w3 hq
    clear d0
    cases hr : ofP 1 l.tail with
    | no p c =>
      rw [hr] at hq
      obtain ⟨rfl, hk⟩ := hq
      have HK3 := Lib.hid (HK2.out.trans hk)
      have HR3 := Lib.hid (show R = .no p c by rw [HR2.out, hr]; rfl)
      clear hk hr HR2 HO
      unfold Stp stopV
      go_wp2_with fail
      rw [HR3.out]
      exact ⟨rfl, rfl, Kp.kd HK3.out⟩
    | ok y l3 =>
      rw [hr] at hq
      obtain ⟨v, rfl, rfl, rfl, rfl, hp, hk⟩ := hq
      have hR3 := HR2.out
      rw [hr] at hR3
      simp only [Pz.and] at hR3
      have HR3 := Lib.hid hR3
      have HV := Lib.hid (show Sr w ((w3.alloc (.cells #[.int .i64 (hdW l.tail).k, .int .i64 (hdW l.tail).p, .string (hdW l.tail).t, .int .i64 (hdW l.tail).n] 73)).alloc (.cells #[.string (hdW l.tail).t, .string ⟨#[]⟩, .string ⟨#[]⟩, .int .i64 (hdW l.tail).p, .int .i64 0, .int .i64 0] 91)) b g cur be B x (.slice A1 x.rpcs.length c1) C l.tail.tail (w3.heap.size + 1) 91 #[.string (hdW l.tail).t, .string ⟨#[]⟩, .string ⟨#[]⟩, .int .i64 (hdW l.tail).p, .int .i64 0, .int .i64 0] from
        ⟨((HE2.out.next hp hk).alloc _).alloc _, ((HK2.out.trans hk).alloc _).alloc _, by have := Blk.new (w3.alloc (.cells #[.int .i64 (hdW l.tail).k, .int .i64 (hdW l.tail).p, .string (hdW l.tail).t, .int .i64 (hdW l.tail).n] 73)) 91 #[.string (hdW l.tail).t, .string ⟨#[]⟩, .string ⟨#[]⟩, .int .i64 (hdW l.tail).p, .int .i64 0, .int .i64 0]; rwa [World.size_alloc] at this,
         by have := HE2.out.blk.lt; have := hk.size; omega, fun i hi => by have := (HE2.out.rows.all_lt i hi).2; have := hk.size; omega, by have := HK2.out.size; have := hk.size; omega⟩)
      have hd3 : w3.cell? ⟨be, 0, none⟩ = some (.pointer (some ⟨b, 0, none⟩)) := (HE2.out.next hp hk).blk.cell 0
      have dlt3 : be < w3.heap.size := (HE2.out.next hp hk).blk.lt
      generalize hdW l.tail = y at *
      clear hk hr HR2 HO hp hR3 HE2 HK2 HK1 dlt elt hlt
      unfold wV
      go_wp2_with fail
      have HX := Lib.hid (exp_at [kLpar] #[.string kLpar] 1 rfl rfl (by decide) (by decide) HV.out.es.ps)
      rw [World.size_alloc, World.size_alloc] at HX
      refine HX.out.mono ?_
      intro e w4 hq
      clear hd3
      cases hr : expP [kLpar] l.tail.tail with
      | no p c =>
        rw [hr] at hq
        obtain ⟨rfl, hk⟩ := hq
        have HK4 := Lib.hid (HV.out.kp.trans hk)
        have HR4 := Lib.hid (show R = .no p c by rw [HR3.out, hr]; first | rfl | skip)
        clear hk hr HR3 HX
        unfold Stp stopV
        go_wp2_with fail
        rw [HR4.out]
        exact ⟨rfl, rfl, Kp.kd HK4.out⟩
      | ok u l4 =>
        rw [hr] at hq
        obtain ⟨v, rfl, rfl, hp, hk⟩ := hq
        have hR4 := HR3.out
        rw [hr] at hR4
        simp only [Pz.and] at hR4
        have HR4 := Lib.hid hR4
        have HV4 := Lib.hid (HV.out.next hp hk)
        clear hk hr HR3 HX hp hR4 HV
        generalize w3.heap.size + 1 = q at *
        obtain ⟨d0, -, -, dlt4⟩ := HV4.out.es.cells
        go_wp2_with fail
        have HX := Lib.hid (name_any HV4.out.es.ps)
        refine HX.out.mono ?_
        intro e w5 hq
        cases hr : nameP l4 with
        | no p c =>
          rw [hr] at hq
          obtain ⟨rfl, hk⟩ := hq
          have HKn := Lib.hid (HV4.out.kp.trans hk)
          have HRn := Lib.hid (show R = .no p c by rw [HR4.out, hr]; first | rfl | skip)
          clear hk hr HR4 HX
          unfold Stp stopV
          go_wp2_with fail
          rw [HRn.out]
          exact ⟨rfl, rfl, Kp.kd HKn.out⟩
        | ok s5 l5 =>
          rw [hr] at hq
          obtain ⟨v, rfl, rfl, hp, hk⟩ := hq
          have hR5 := HR4.out
          rw [hr] at hR5
          simp only [Pz.and] at hR5
          have HR5 := Lib.hid hR5
          have HV5' := Lib.hid (HV4.out.next hp hk)
          have HV5 := Lib.hid (show Sr w ((World.setCell (World.setCell w5 ⟨q, 1, none⟩ (.string s5)) ⟨q, 4, none⟩ (.int .i64 (hdW l4).p))) b g cur be B x (.slice A1 x.rpcs.length c1) C l5 q 91 #[.string y.t, .string s5, .string ⟨#[]⟩, .int .i64 y.p, .int .i64 (hdW l4).p, .int .i64 0] from (HV5'.out.set 1 (.string s5)).set 4 (.int .i64 (hdW l4).p))
          obtain ⟨d0, -, -, dlt5⟩ := HV5'.out.es.cells
          obtain ⟨⟨m0, m1, m2, m3, m4, m5⟩, f0, f1, f2, f3, f4, f5⟩ := HV5'.out.bl.six_
          have hqb5 : be ≠ q := by have := HV5'.out.qb; omega
          clear hk hr HR4 HX hp hR5 HV4 HV5'
          go_wp2_with fail
          have hsz : (World.setCell (World.setCell w5 ⟨q, 1, none⟩ (.string s5)) ⟨q, 4, none⟩ (.int .i64 (hdW l4).p)).heap.size = w5.heap.size := by simp
          have HX := Lib.hid (exp_at [kRpar, kRet, kLpar] #[.string kRpar, .string kRet, .string kLpar] 3 rfl rfl (by decide) (by decide) HV5.out.es.ps)
          rw [hsz] at HX
          refine HX.out.mono ?_
          intro e w6 hq
          cases hr : expP [kRpar, kRet, kLpar] l5 with
          | no p c =>
            rw [hr] at hq
            obtain ⟨rfl, hk⟩ := hq
            have HKn := Lib.hid (HV5.out.kp.trans hk)
            have HRn := Lib.hid (show R = .no p c by rw [HR5.out, hr]; first | rfl | skip)
            clear hk hr HR5 HX
            unfold Stp stopV
            go_wp2_with fail
            rw [HRn.out]
            exact ⟨rfl, rfl, Kp.kd HKn.out⟩
          | ok u l6 =>
            rw [hr] at hq
            obtain ⟨v, rfl, rfl, hp, hk⟩ := hq
            have hR6 := HR5.out
            rw [hr] at hR6
            first | (simp only [Pz.and] at hR6; done) | skip
            have HR6 := Lib.hid hR6
            have HV6 := Lib.hid (HV5.out.next hp hk)
            clear hk hr HR5 HX hp hR6 HV5
            clear hsz d0 m0 m1 m2 m3 m4 m5 f0 f1 f2 f3 f4 f5
            obtain ⟨d0, -, -, dlt6⟩ := HV6.out.es.cells
            go_wp2_with fail
            have HX := Lib.hid (name_any HV6.out.es.ps)
            refine HX.out.mono ?_
            intro e w7 hq
            cases hr : nameP l6 with
            | no p c =>
              rw [hr] at hq
              obtain ⟨rfl, hk⟩ := hq
              have HKn := Lib.hid (HV6.out.kp.trans hk)
              have HRn := Lib.hid (show R = .no p c by rw [HR6.out, hr]; first | rfl | skip)
              clear hk hr HR6 HX
              unfold Stp stopV
              go_wp2_with fail
              rw [HRn.out]
              exact ⟨rfl, rfl, Kp.kd HKn.out⟩
            | ok s7 l7 =>
              rw [hr] at hq
              obtain ⟨v, rfl, rfl, hp, hk⟩ := hq
              have hR7 := HR6.out
              rw [hr] at hR7
              simp only [Pz.and] at hR7
              have HR7 := Lib.hid hR7
              have HV7' := Lib.hid (HV6.out.next hp hk)
              have HV7 := Lib.hid (show Sr w ((World.setCell (World.setCell w7 ⟨q, 2, none⟩ (.string s7)) ⟨q, 5, none⟩ (.int .i64 (hdW l6).p))) b g cur be B x (.slice A1 x.rpcs.length c1) C l7 q 91 #[.string y.t, .string s5, .string s7, .int .i64 y.p, .int .i64 (hdW l4).p, .int .i64 (hdW l6).p] from (HV7'.out.set 2 (.string s7)).set 5 (.int .i64 (hdW l6).p))
              obtain ⟨d0, -, -, dlt7⟩ := HV7'.out.es.cells
              obtain ⟨⟨m0, m1, m2, m3, m4, m5⟩, f0, f1, f2, f3, f4, f5⟩ := HV7'.out.bl.six_
              have hqb7 : be ≠ q := by have := HV7'.out.qb; omega
              clear hk hr HR6 HX hp hR7 HV6 HV7'
              go_wp2_with fail
              have hsz : (World.setCell (World.setCell w7 ⟨q, 2, none⟩ (.string s7)) ⟨q, 5, none⟩ (.int .i64 (hdW l6).p)).heap.size = w7.heap.size := by simp
              have HX := Lib.hid (exp_at [kRpar] #[.string kRpar] 1 rfl rfl (by decide) (by decide) HV7.out.es.ps)
              rw [hsz] at HX
              refine HX.out.mono ?_
              intro e w8 hq
              cases hr : expP [kRpar] l7 with
              | no p c =>
                rw [hr] at hq
                obtain ⟨rfl, hk⟩ := hq
                have HKn := Lib.hid (HV7.out.kp.trans hk)
                have HRn := Lib.hid (show R = .no p c by rw [HR7.out, hr]; first | rfl | skip)
                clear hk hr HR7 HX
                unfold Stp stopV
                go_wp2_with fail
                rw [HRn.out]
                exact ⟨rfl, rfl, Kp.kd HKn.out⟩
              | ok u l8 =>
                rw [hr] at hq
                obtain ⟨v, rfl, rfl, hp, hk⟩ := hq
                have hR8 := HR7.out
                rw [hr] at hR8
                first | (simp only [Pz.and] at hR8; done) | skip
                have HR8 := Lib.hid hR8
                have HV8 := Lib.hid (HV7.out.next hp hk)
                clear hk hr HR7 HX hp hR8 HV7
                clear hsz d0 m0 m1 m2 m3 m4 m5 f0 f1 f2 f3 f4 f5
                obtain ⟨d0, -, -, dlt8b⟩ := HV8.out.es.cells
                have HT := Lib.hid (takes_any HV8.out.es.ps kOpen (by decide))
                go_wp2_with fail
                refine HT.out.mono ?_
                rintro e w9 ⟨h1, hk9⟩
                clear d0
                rcases h1 with ⟨hq, rfl, hp9, hg9⟩ | ⟨hq, rfl, hp9⟩
                · have HV9 := Lib.hid (HV8.out.next hp9 hk9)
                  have hR9 := HR8.out
                  rw [if_pos hq] at hR9
                  have HR9 := Lib.hid hR9
                  clear HT hp9 hk9 hg9 hq HV8 HR8 hR9
                  obtain ⟨d0, -, -, dlt9⟩ := HV9.out.es.cells
                  go_wp2_with fail
                  have HX := Lib.hid (exp_at [kShut] #[.string kShut] 1 rfl rfl (by decide) (by decide) HV9.out.es.ps)
                  refine HX.out.mono ?_
                  intro e w10 hq
                  cases hr : expP [kShut] l8.tail with
                  | no p c =>
                    rw [hr] at hq
                    obtain ⟨rfl, hk⟩ := hq
                    have HKn := Lib.hid (HV9.out.kp.trans hk)
                    have HRn := Lib.hid (show R = .no p c by rw [HR9.out, hr]; first | rfl | skip)
                    clear hk hr HR9 HX
                    unfold Stp stopV
                    go_wp2_with fail
                    rw [HRn.out]
                    exact ⟨rfl, rfl, Kp.kd HKn.out⟩
                  | ok u l10 =>
                    rw [hr] at hq
                    obtain ⟨v, rfl, rfl, hp, hk⟩ := hq
                    have hR10 := HR9.out
                    rw [hr] at hR10
                    first | (simp only [Pz.and] at hR10; done) | skip
                    have HR10 := Lib.hid hR10
                    have HV10 := Lib.hid (HV9.out.next hp hk)
                    clear hk hr HR9 HX hp hR10 HV9
                    clear d0
                    obtain ⟨d0, d3, y3, dlt10⟩ := HV10.out.es.cells
                    obtain ⟨⟨m0, m1, m2, m3, m4, m5⟩, -⟩ := HV10.out.bl.six_
                    have HBZ := Lib.hid (show B ≤ (w10.drew.alloc (.cells #[.string y.t, .string s5, .string s7, .int .i64 y.p, .int .i64 (hdW l4).p, .int .i64 (hdW l6).p] 91)).heap.size by rw [World.size_alloc]; show _ ≤ w10.heap.size + 1; have := HV10.out.es.sz; omega)
                    have HQ := Lib.hid (show R = .ok { x with rpcs := x.rpcs ++ [⟨y.t, s5, s7, y.p, (hdW l4).p, (hdW l6).p⟩] } l10 by rw [HR10.out]; first | rfl | skip)
                    clear HR10
                    go_wp2_with fail
                    go_region_law (first
                      | (refine step_append_rows _ (by rfl) _ _ 84 (by rfl) (HV10.out.es.drew.alloc (.cells #[.string y.t, .string s5, .string s7, .int .i64 y.p, .int .i64 (hdW l4).p, .int .i64 (hdW l6).p] 91)).rows 0 (rwRp x.rpcs (.slice A1 x.rpcs.length c1)) (by rfl) i0 _ 72 Tryz.underlying84 hi0 hz0 hz1 hz2 (by rfl) (Nat.succ_pos 5) (by rfl) w10.heap.size (by rfl) _ (Rp.dv ⟨y.t, s5, s7, y.p, (hdW l4).p, (hdW l6).p⟩) (Blk.new w10.drew 91 _) (by rfl) (Rp.mem _ B ⟨y.t, s5, s7, y.p, (hdW l4).p, (hdW l6).p⟩) (by intro q hq; cases hq) hal (by decide) HBZ.out ?_; intro v6 wf ho6 hg6 hv6; have HO6 := Lib.hid ho6; have HG6 := Lib.hid hg6; have HB6 := Lib.hid (Blk.kp (HV10.out.es.drew.alloc (.cells #[.string y.t, .string s5, .string s7, .int .i64 y.p, .int .i64 (hdW l4).p, .int .i64 (hdW l6).p] 91)).blk (Kp.of_grown hg6) (fun e => by have := ((HV10.out.es.drew.alloc (.cells #[.string y.t, .string s5, .string s7, .int .i64 y.p, .int .i64 (hdW l4).p, .int .i64 (hdW l6).p] 91)).rows.own_mem (j := 0) rfl e.symm).2.1; have := HV10.out.es.lB; omega)); obtain ⟨A6, c6, e6, -, -⟩ := ho6.val (j := 0) rfl; simp only at e6; subst e6; have f3 : wf.frozen? ⟨be, 3, none⟩ = false := HB6.out.frozen 3; have q3 : wf.cell? ⟨be, 3, none⟩ = some (.slice A1 x.rpcs.length c1) := HB6.out.cell 3; clear ho6 hg6 hv6))
                    all_goals
                      rw [HQ.out]
                      go_end0
                      have hne : be ≠ b := by have := HV10.out.es.lb; omega
                      have hng : be ≠ g := by have := HV10.out.es.lg; omega
                      have hown : ∀ i, (Value.slice A1 x.rpcs.length c1).ownBlock = some i → B ≤ i := fun i hi => (HV10.out.es.rows.own_mem (j := 0) rfl hi).2.1
                      have h6 := HO6.out
                      rw [List.append_nil, rwRp_snoc x.rpcs ⟨y.t, s5, s7, y.p, (hdW l4).p, (hdW l6).p⟩ (.slice none 0 0) _] at h6
                      have hp6 : Ps wf b g cur l10 := (HV10.out.es.drew.alloc _).ps.kp (Kp.of_grown HG6.out) (fun e => by have := hown b e.symm; have := HV10.out.es.lb; have := HV10.out.es.lB; omega) (fun e => by have := hown g e.symm; have := HV10.out.es.lg; have := HV10.out.es.lB; omega)
                      have hk6 : Kd b be B w wf := (Kp.kd (HV10.out.kp.drew.alloc (.cells #[.string y.t, .string s5, .string s7, .int .i64 y.p, .int .i64 (hdW l4).p, .int .i64 (hdW l6).p] 91)) : Kd b be B w _).grown HG6.out fun i hi _ => .inr (.inr (hown i hi))
                      refine ⟨_, rfl, rfl, ⟨.slice A6 (x.rpcs.length + 1) c6, C, hp6.far hne hng _, ?_, ?_, HV10.out.es.lb, HV10.out.es.lg, HV10.out.es.lB, by simpa using Nat.le_trans HV10.out.es.sz (show w10.heap.size ≤ wf.heap.size by have := HG6.out.size; simp at this; exact Nat.le_of_succ_le this)⟩, hk6.setCell (fun _ => .inr (.inl rfl)) _⟩
                      · exact HB6.out.set_ 3 _
                      · exact Rows_.setCell h6 HV10.out.es.lB _
                · have HV9 := Lib.hid (HV8.out.next hp9 hk9)
                  have hR9 := HR8.out
                  rw [if_neg hq] at hR9
                  have HR9 := Lib.hid hR9
                  clear HT hp9 hk9 hq HV8 HR8 hR9
                  obtain ⟨d0, -, -, dlt9⟩ := HV9.out.es.cells
                  go_wp2_with fail
                  have HX := Lib.hid (exp_at [kSemi] #[.string kSemi] 1 rfl rfl (by decide) (by decide) HV9.out.es.ps)
                  refine HX.out.mono ?_
                  intro e w10 hq
                  cases hr : expP [kSemi] l8 with
                  | no p c =>
                    rw [hr] at hq
                    obtain ⟨rfl, hk⟩ := hq
                    have HKn := Lib.hid (HV9.out.kp.trans hk)
                    have HRn := Lib.hid (show R = .no p c by rw [HR9.out, hr]; first | rfl | skip)
                    clear hk hr HR9 HX
                    unfold Stp stopV
                    go_wp2_with fail
                    rw [HRn.out]
                    exact ⟨rfl, rfl, Kp.kd HKn.out⟩
                  | ok u l10 =>
                    rw [hr] at hq
                    obtain ⟨v, rfl, rfl, hp, hk⟩ := hq
                    have hR10 := HR9.out
                    rw [hr] at hR10
                    first | (simp only [Pz.and] at hR10; done) | skip
                    have HR10 := Lib.hid hR10
                    have HV10 := Lib.hid (HV9.out.next hp hk)
                    clear hk hr HR9 HX hp hR10 HV9
                    clear d0
                    obtain ⟨d0, d3, y3, dlt10⟩ := HV10.out.es.cells
                    obtain ⟨⟨m0, m1, m2, m3, m4, m5⟩, -⟩ := HV10.out.bl.six_
                    have HBZ := Lib.hid (show B ≤ (w10.drew.alloc (.cells #[.string y.t, .string s5, .string s7, .int .i64 y.p, .int .i64 (hdW l4).p, .int .i64 (hdW l6).p] 91)).heap.size by rw [World.size_alloc]; show _ ≤ w10.heap.size + 1; have := HV10.out.es.sz; omega)
                    have HQ := Lib.hid (show R = .ok { x with rpcs := x.rpcs ++ [⟨y.t, s5, s7, y.p, (hdW l4).p, (hdW l6).p⟩] } l10 by rw [HR10.out]; first | rfl | skip)
                    clear HR10
                    go_wp2_with fail
                    go_region_law (first
                      | (refine step_append_rows _ (by rfl) _ _ 84 (by rfl) (HV10.out.es.drew.alloc (.cells #[.string y.t, .string s5, .string s7, .int .i64 y.p, .int .i64 (hdW l4).p, .int .i64 (hdW l6).p] 91)).rows 0 (rwRp x.rpcs (.slice A1 x.rpcs.length c1)) (by rfl) i0 _ 72 Tryz.underlying84 hi0 hz0 hz1 hz2 (by rfl) (Nat.succ_pos 5) (by rfl) w10.heap.size (by rfl) _ (Rp.dv ⟨y.t, s5, s7, y.p, (hdW l4).p, (hdW l6).p⟩) (Blk.new w10.drew 91 _) (by rfl) (Rp.mem _ B ⟨y.t, s5, s7, y.p, (hdW l4).p, (hdW l6).p⟩) (by intro q hq; cases hq) hal (by decide) HBZ.out ?_; intro v6 wf ho6 hg6 hv6; have HO6 := Lib.hid ho6; have HG6 := Lib.hid hg6; have HB6 := Lib.hid (Blk.kp (HV10.out.es.drew.alloc (.cells #[.string y.t, .string s5, .string s7, .int .i64 y.p, .int .i64 (hdW l4).p, .int .i64 (hdW l6).p] 91)).blk (Kp.of_grown hg6) (fun e => by have := ((HV10.out.es.drew.alloc (.cells #[.string y.t, .string s5, .string s7, .int .i64 y.p, .int .i64 (hdW l4).p, .int .i64 (hdW l6).p] 91)).rows.own_mem (j := 0) rfl e.symm).2.1; have := HV10.out.es.lB; omega)); obtain ⟨A6, c6, e6, -, -⟩ := ho6.val (j := 0) rfl; simp only at e6; subst e6; have f3 : wf.frozen? ⟨be, 3, none⟩ = false := HB6.out.frozen 3; have q3 : wf.cell? ⟨be, 3, none⟩ = some (.slice A1 x.rpcs.length c1) := HB6.out.cell 3; clear ho6 hg6 hv6))
                    all_goals
                      rw [HQ.out]
                      go_end0
                      have hne : be ≠ b := by have := HV10.out.es.lb; omega
                      have hng : be ≠ g := by have := HV10.out.es.lg; omega
                      have hown : ∀ i, (Value.slice A1 x.rpcs.length c1).ownBlock = some i → B ≤ i := fun i hi => (HV10.out.es.rows.own_mem (j := 0) rfl hi).2.1
                      have h6 := HO6.out
                      rw [List.append_nil, rwRp_snoc x.rpcs ⟨y.t, s5, s7, y.p, (hdW l4).p, (hdW l6).p⟩ (.slice none 0 0) _] at h6
                      have hp6 : Ps wf b g cur l10 := (HV10.out.es.drew.alloc _).ps.kp (Kp.of_grown HG6.out) (fun e => by have := hown b e.symm; have := HV10.out.es.lb; have := HV10.out.es.lB; omega) (fun e => by have := hown g e.symm; have := HV10.out.es.lg; have := HV10.out.es.lB; omega)
                      have hk6 : Kd b be B w wf := (Kp.kd (HV10.out.kp.drew.alloc (.cells #[.string y.t, .string s5, .string s7, .int .i64 y.p, .int .i64 (hdW l4).p, .int .i64 (hdW l6).p] 91)) : Kd b be B w _).grown HG6.out fun i hi _ => .inr (.inr (hown i hi))
                      refine ⟨_, rfl, rfl, ⟨.slice A6 (x.rpcs.length + 1) c6, C, hp6.far hne hng _, ?_, ?_, HV10.out.es.lb, HV10.out.es.lg, HV10.out.es.lB, by simpa using Nat.le_trans HV10.out.es.sz (show w10.heap.size ≤ wf.heap.size by have := HG6.out.size; simp at this; exact Nat.le_of_succ_le this)⟩, hk6.setCell (fun _ => .inr (.inl rfl)) _⟩
                      · exact HB6.out.set_ 3 _
                      · exact Rows_.setCell h6 HV10.out.es.lB _
end
end
section
open Go.RowKit
set_option linter.unusedVariables false
set_option linter.unusedSimpArgs false

theorem nameP_len {l l' : List Wd} {s : ByteArray} (h : nameP l = .ok s l') : l'.length ≤ l.length := by
  have hd : ∀ (n : Nat) {b b' : ByteArray} {m m' : List Wd}, dotsF n b m = .ok b' m' → m'.length ≤ m.length := by
    intro n
    induction n with
    | zero => intro b b' m m' h; cases h
    | succ n ih =>
      intro b b' m m' h
      rw [dotsF] at h
      split at h
      · obtain ⟨w, l1, h1, h2⟩ := Pz.and_ok h
        have e := (ofP_len h1).2
        subst e
        have := ih h2; have := tail_le m; have := tail_le m.tail; omega
      · injection h with _ h; rw [h]; exact Nat.le_refl _
  have hf : ∀ {st : ByteArray} {at_ : Nat} {m m' : List Wd} {b : ByteArray}, fullP st at_ m = .ok b m' → m'.length ≤ m.length := by
    intro st at_ m m' b h
    unfold fullP at h
    obtain ⟨w, l1, h1, k1⟩ := Pz.and_ok h
    obtain ⟨b2, l2, h2, k2⟩ := Pz.and_ok k1
    have e := (ofP_len h1).2
    subst e
    have := hd _ h2; have := tail_le m
    split at k2
    · cases k2
    · injection k2 with _ k3; subst k3; omega
  unfold nameP at h
  split at h
  · have := hf h; have := tail_le l; omega
  · exact hf h
theorem rpcP_len {l l' : List Wd} {r : Rp} (h : rpcP l = .ok r l') : l'.length ≤ l.length := by
  unfold rpcP at h
  obtain ⟨w, l1, h1, h⟩ := Pz.and_ok h
  obtain ⟨u, l2, h2, h⟩ := Pz.and_ok h
  obtain ⟨s, l3, h3, h⟩ := Pz.and_ok h
  obtain ⟨u, l4, h4, h⟩ := Pz.and_ok h
  obtain ⟨s2, l5, h5, h⟩ := Pz.and_ok h
  obtain ⟨u, l6, h6, h⟩ := Pz.and_ok h
  obtain ⟨u, l7, h7, h⟩ := Pz.and_ok h
  injection h with _ h
  subst h
  have e := (ofP_len h1).2
  subst e
  have := expP_len _ h2; have := nameP_len h3; have := expP_len _ h4; have := nameP_len h5; have := expP_len _ h6; have := tail_le l
  split at h7
  · have := expP_len _ h7; have := tail_le l6; omega
  · have := expP_len _ h7; omega
theorem svS_len {x x' : Sv} {l l' : List Wd} (hl : Gd l) (h : svS x l = .ok x' l') : l'.length < l.length := by
  have hn := hl.len
  unfold svS at h
  split at h
  · injection h with _ h; rw [← h]; omega
  · split at h
    · obtain ⟨r, l1, h1, h2⟩ := Pz.and_ok (roomP_ok h)
      injection h2 with _ h2
      subst h2
      have := rpcP_len h1; omega
    · cases h
/-- A service that is being read, beside the map of its elements. -/
def SvI (b g : Nat) (cur : Array Value) (be B mb : Nat) (xs : List (ByteArray × Value)) (W : World) (x : Sv) (l : List Wd) : Prop := (∃ v1 C, Ss W b g cur be B x v1 C l) ∧ MapS W mb xs
def svKey (b be : Nat) : List (ByteArray × Value) := [(kSemi, .func (.func 147) #[.pointer (some ⟨b, 0, none⟩)] #[]), (kRpc, .func (.func 205) #[.pointer (some ⟨be, 0, none⟩)] #[])]
section
variable {w : World} {b g : Nat} {cur : Array Value} {l : List Wd}
theorem svElement_any {be B mb : Nat} {xs : List (ByteArray × Value)} (hx : ∀ z, lookS xs z = lookS (svKey b be) z) (hmb : mb ≠ b ∧ mb ≠ be ∧ mb < B) {x : Sv} (h : SvI b g cur be B mb xs w x l) :
    Calls Tryz.prog 102 #[.pointer (some ⟨b, 0, none⟩), .map (some mb), .func (.func 103) #[.pointer (some ⟨b, 0, none⟩)] #[]] w
    (PzQ (svS x l) (Kd b be B w) fun x' l' v w' => v = .tuple #[] ∧ SvI b g cur be B mb xs w' x' l' ∧ Kd b be B w w' ∧ l'.length < l.length) := by
  obtain ⟨⟨v1, C, hes⟩, hm⟩ := h
  have hgd := hes.ps.gd
  have hmk : ∀ W', Kd b be B w W' → MapS W' mb xs := fun W' hk => hm.kn hk (by rintro (e | e | e) <;> omega)
  by_cases h1 : sayW l = kSemi
  · have e : svS x l = .ok x l.tail := by unfold svS; rw [if_pos h1]
    rw [e]
    have hlk : lookS xs (sayW l) = some (.func (.func 147) #[.pointer (some ⟨b, 0, none⟩)] #[]) := by rw [hx, h1]; rfl
    refine (element_known (T := fun w' => SvI b g cur be B mb xs w' x l.tail ∧ Kd b be B w w') (N := fun _ _ _ => False) hes.ps hm 147 _ _ hlk (by decide) fun W hk => ?_).mono ?_
    · refine (empty_any (hes.ps.kn hk) h1).mono ?_
      rintro e w' ⟨rfl, hp, hk'⟩
      have hkb : Kb b w w' := (Kn.kb hk b).trans hk'
      exact .inl ⟨rfl, ⟨⟨v1, C, hes.next hp hkb⟩, hmk _ (Kp.kd hkb)⟩, Kp.kd hkb⟩
    · rintro e w' (⟨rfl, h2, h3⟩ | ⟨p, c, _, h⟩)
      · exact ⟨_, rfl, rfl, h2, h3, by have := hgd.len; omega⟩
      · exact h.elim
  by_cases h2 : sayW l = kRpc
  · have e : svS x l = roomP x.rpcs.length 64 l ((rpcP l.tail).and fun r l => .ok { x with rpcs := x.rpcs ++ [r] } l) := by unfold svS; rw [if_neg h1, if_pos h2]
    rw [e]
    have hlk : lookS xs (sayW l) = some (.func (.func 205) #[.pointer (some ⟨be, 0, none⟩)] #[]) := by rw [hx, h2]; rfl
    cases hr : roomP x.rpcs.length 64 l ((rpcP l.tail).and fun r l => .ok { x with rpcs := x.rpcs ++ [r] } l) with
    | no p c =>
      refine (element_known (T := fun w' => False) (N := fun p' c' w' => p' = p ∧ c' = c ∧ Kd b be B w w') hes.ps hm 205 _ _ hlk (by decide) fun W hk => ?_).mono ?_
      · have := rpc_any (hes.kn hk) (hgd.k_s h2 (by decide))
        rw [hr] at this
        refine this.mono ?_
        rintro e w' ⟨rfl, hk'⟩
        exact .inr ⟨p, c, rfl, rfl, rfl, (Kn.kd hk).trans hk'⟩
      · rintro e w' (⟨_, h⟩ | ⟨p', c', rfl, rfl, rfl, h⟩)
        · exact h.elim
        · exact ⟨rfl, h⟩
    | ok x' l' =>
      refine (element_known (T := fun w' => SvI b g cur be B mb xs w' x' l' ∧ Kd b be B w w') (N := fun p' c' w' => False) hes.ps hm 205 _ _ hlk (by decide) fun W hk => ?_).mono ?_
      · have := rpc_any (hes.kn hk) (hgd.k_s h2 (by decide))
        rw [hr] at this
        refine this.mono ?_
        rintro e w' ⟨v, rfl, rfl, hE, hk'⟩
        exact .inl ⟨rfl, ⟨hE, hmk _ ((Kn.kd hk).trans hk')⟩, (Kn.kd hk).trans hk'⟩
      · rintro e w' (⟨rfl, h3, h4⟩ | ⟨p', c', _, h⟩)
        · exact ⟨_, rfl, rfl, h3, h4, svS_len (x := x) (x' := x') hgd (e.trans hr)⟩
        · exact h.elim
  · have e : svS x l = refuse l := by unfold svS; rw [if_neg h1, if_neg h2]
    rw [e]
    have hlk : lookS xs (sayW l) = none := by rw [hx]; simp [svKey, lookS, h1, h2]
    refine (element_other (T := fun w' => False) (N := fun p' c' w' => p' = (hdW l).p ∧ c' = 40 ∧ Kd b be B w w') hes.ps hm 103 _ hlk (by decide) fun W hk => ?_).mono ?_
    · refine (refuse_any (hes.ps.kn hk)).mono ?_
      rintro e w' ⟨rfl, hk'⟩
      exact .inr ⟨_, _, rfl, rfl, rfl, Kn.kd (hk.trans hk')⟩
    · rintro e w' (⟨_, h⟩ | ⟨p', c', rfl, rfl, rfl, h⟩)
      · exact h.elim
      · exact ⟨rfl, h⟩
end
end
end Go.Proofs.YthmdaejlopjjoaaGreatDoor
