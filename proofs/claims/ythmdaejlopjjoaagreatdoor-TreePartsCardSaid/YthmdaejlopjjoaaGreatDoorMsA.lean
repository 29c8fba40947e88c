/-
  tree: a message that is being read.
  tree: the rest of a field.
  tree: a field from its type on.
  tree: plain, optional, repeated.
  tree: a map.
  tree: what a message reserves.
-/
import Derived.Test.YthmdaejlopjjoaaGreatDoorTrP21
namespace Go.Proofs.YthmdaejlopjjoaaGreatDoor
section
open Go.RowKit
set_option linter.unusedVariables false
set_option linter.unusedSimpArgs false

/-- The six lists of a message that is being read, as values. -/
structure MV where
  f : Value
  o : Value
  m : Value
  e : Value
  r : Value
  n : Value
abbrev rwFd (a : List Fd) (v : Value) : Rw := ⟨97, 10, a.length, a.flatMap Fd.dv, v⟩
abbrev rwMs (a : List Ms) (v : Value) : Rw := ⟨49, 8, a.length, a.flatMap (Ms.dv Ty0), v⟩
abbrev rwEn (a : List En) (v : Value) : Rw := ⟨52, 5, a.length, a.flatMap (En.dv Ty0), v⟩
theorem rwFd_snoc (a : List Fd) (x : Fd) (v v' : Value) : (⟨(rwFd a v).t, (rwFd a v).k, (rwFd a v).n + 1, (rwFd a v).cs ++ x.dv, v'⟩ : Rw) = rwFd (a ++ [x]) v' := by
  simp [rwFd]
theorem rwMs_snoc (a : List Ms) (x : Ms) (v v' : Value) : (⟨(rwMs a v).t, (rwMs a v).k, (rwMs a v).n + 1, (rwMs a v).cs ++ x.dv Ty0, v'⟩ : Rw) = rwMs (a ++ [x]) v' := by
  simp [rwMs]
theorem rwEn_snoc (a : List En) (x : En) (v v' : Value) : (⟨(rwEn a v).t, (rwEn a v).k, (rwEn a v).n + 1, (rwEn a v).cs ++ x.dv Ty0, v'⟩ : Rw) = rwEn (a ++ [x]) v' := by
  simp [rwEn]
def mrows (x : Ms) (V : MV) : List Rw := [rwFd x.flds V.f, rwTx x.onos V.o, rwMs x.msgs V.m, rwEn x.enums V.e, rwSp x.rngs V.r, rwTx x.nams V.n]
/-- A message that is being read, in block be. -/
structure Mg (w : World) (b g : Nat) (cur : Array Value) (be B deep : Nat) (x : Ms) (V : MV) (C : List Nat) (l : List Wd) : Prop where
  ps : Ps w b g cur l
  blk : Blk w be 236 #[.pointer (some ⟨b, 0, none⟩), .string x.name, .int .i64 x.at_, V.f, V.o, V.m, V.e, V.r, V.n, .int .i64 deep]
  rows : Rows_ w B (mrows x V) C
  lb : b < be
  lg : g < be
  lB : be < B
  sz : B ≤ w.heap.size
section
variable {w w' : World} {b g be B deep : Nat} {cur : Array Value} {x : Ms} {V : MV} {C : List Nat} {l l' : List Wd}
theorem Mg.next (h : Mg w b g cur be B deep x V C l) (hp : Ps w' b g cur l') (hk : Kb b w w') : Mg w' b g cur be B deep x V C l' :=
  ⟨hp, h.blk.kp hk (by have := h.lb; omega), h.rows.kp hk (fun q e => by have := h.lb; have := h.lB; omega), h.lb, h.lg, h.lB, Nat.le_trans h.sz hk.size⟩
theorem Mg.kn (h : Mg w b g cur be B deep x V C l) (hk : Kn w w') : Mg w' b g cur be B deep x V C l := h.next (h.ps.kn hk) (Kn.kb hk b)
theorem Mg.alloc (h : Mg w b g cur be B deep x V C l) (o : Obj) : Mg (w.alloc o) b g cur be B deep x V C l := h.kn ((Kp.refl _ w).alloc o)
theorem Mg.drew (h : Mg w b g cur be B deep x V C l) : Mg w.drew b g cur be B deep x V C l := h.kn (Kp.refl _ w).drew
theorem Mg.ptr (h : Mg w b g cur be B deep x V C l) : w.cell? ⟨be, 0, none⟩ = some (.pointer (some ⟨b, 0, none⟩)) ∧ be < w.heap.size := ⟨h.blk.cell 0, h.blk.lt⟩
end
/-- What an element of a message leaves. -/
def MgK (w : World) (b g : Nat) (cur : Array Value) (be B deep : Nat) : Ms → List Wd → Value → World → Prop :=
  fun x l v w' => v = .tuple #[] ∧ (∃ V C, Mg w' b g cur be B deep x V C l) ∧ Kd b be B w w'
/-- A block beside a message that is being read. -/
structure Mr (w0 w : World) (b g : Nat) (cur : Array Value) (be B deep : Nat) (x : Ms) (V : MV) (C : List Nat) (l : List Wd) (q : Nat) (t : TypeId) (cs : Array Value) : Prop where
  es : Mg w b g cur be B deep x V C l
  kp : Kb b w0 w
  bl : Blk w q t cs
  qb : be < q
  qr : ∀ i, i ∈ owns (mrows x V) ∨ i ∈ C → i < q
  q0 : w0.heap.size ≤ q
section
variable {w0 w w' : World} {b g be B deep : Nat} {cur : Array Value} {x : Ms} {V : MV} {C : List Nat} {l l' : List Wd} {q : Nat} {t : TypeId} {cs : Array Value}
theorem Mr.next (h : Mr w0 w b g cur be B deep x V C l q t cs) (hp : Ps w' b g cur l') (hk : Kb b w w') : Mr w0 w' b g cur be B deep x V C l' q t cs :=
  ⟨h.es.next hp hk, h.kp.trans hk, h.bl.kp hk (by have := h.qb; have := h.es.lb; omega), h.qb, h.qr, h.q0⟩
theorem Mr.kn (h : Mr w0 w b g cur be B deep x V C l q t cs) (hk : Kn w w') : Mr w0 w' b g cur be B deep x V C l q t cs := h.next (h.es.ps.kn hk) (Kn.kb hk b)
theorem Mr.alloc (h : Mr w0 w b g cur be B deep x V C l q t cs) (o : Obj) : Mr w0 (w.alloc o) b g cur be B deep x V C l q t cs := h.kn ((Kp.refl _ w).alloc o)
theorem Mr.drew (h : Mr w0 w b g cur be B deep x V C l q t cs) : Mr w0 w.drew b g cur be B deep x V C l q t cs := h.kn (Kp.refl _ w).drew
theorem Mr.set (h : Mr w0 w b g cur be B deep x V C l q t cs) (i : Nat) (u : Value) : Mr w0 (w.setCell ⟨q, i, none⟩ u) b g cur be B deep x V C l q t (cs.setIfInBounds i u) :=
  ⟨⟨h.es.ps.far (by have := h.qb; have := h.es.lb; show q ≠ b; omega) (by have := h.qb; have := h.es.lg; show q ≠ g; omega) _, h.es.blk.far (by have := h.qb; show be ≠ q; omega) _, h.es.rows.keep (by simp) (fun k hk => Below.heap_setCell w ⟨q, i, none⟩ u k (by have := h.qr k hk; show k ≠ q; omega)), h.es.lb, h.es.lg, h.es.lB, by simpa using h.es.sz⟩,
   h.kp.setCell (fun hlt => by have := h.q0; have h2 : q < w0.heap.size := hlt; omega) _, h.bl.set_ i u, h.qb, h.qr, h.q0⟩
end
theorem Tryz.info97 : (Tryz.prog.info? 97).map (fun i => (i.zero, i.size, i.bytes)) = some (some (.agg #[.string ⟨#[]⟩, .string ⟨#[]⟩, .string ⟨#[]⟩, .string ⟨#[]⟩, .int .i64 0, .int .i64 0, .int .i64 0, .int .i64 0, .int .i64 0, .int .i64 0]), 10, 112) := by kernel_rfl
theorem Tryz.underlying45 : Tryz.prog.underlying 45 = some (.slice 97) := by kernel_rfl
def Fd.cells (x : Fd) : List Value := [.string x.name, .string x.typ, .string x.key, .string x.json, .int .i64 x.card, .int .i64 x.num, .int .i64 x.oneof, .int .i64 x.at_, .int .i64 x.tat, .int .i64 x.nat_]
theorem Fd.mem (w : World) (B : Nat) (x : Fd) : MemL w B x.dv x.cells.toArray.toList [] := MemL.plain w B x.cells (by simp [Fd.cells, Value.oneCell'])
theorem Blk.ten_ {w : World} {q : Nat} {t : TypeId} {a0 a1 a2 a3 a4 a5 a6 a7 a8 a9 : Value} (h : Blk w q t #[a0, a1, a2, a3, a4, a5, a6, a7, a8, a9]) :
    (w.cell? ⟨q, 0, none⟩ = some a0 ∧ w.cell? ⟨q, 1, none⟩ = some a1 ∧ w.cell? ⟨q, 2, none⟩ = some a2 ∧ w.cell? ⟨q, 3, none⟩ = some a3 ∧ w.cell? ⟨q, 4, none⟩ = some a4 ∧ w.cell? ⟨q, 5, none⟩ = some a5 ∧ w.cell? ⟨q, 6, none⟩ = some a6 ∧ w.cell? ⟨q, 7, none⟩ = some a7 ∧ w.cell? ⟨q, 8, none⟩ = some a8 ∧ w.cell? ⟨q, 9, none⟩ = some a9) ∧
    w.frozen? ⟨q, 0, none⟩ = false ∧ w.frozen? ⟨q, 1, none⟩ = false ∧ w.frozen? ⟨q, 2, none⟩ = false ∧ w.frozen? ⟨q, 3, none⟩ = false ∧ w.frozen? ⟨q, 5, none⟩ = false ∧ w.frozen? ⟨q, 7, none⟩ = false ∧ w.frozen? ⟨q, 8, none⟩ = false ∧ w.frozen? ⟨q, 9, none⟩ = false :=
  ⟨⟨h.cell 0, h.cell 1, h.cell 2, h.cell 3, h.cell 4, h.cell 5, h.cell 6, h.cell 7, h.cell 8, h.cell 9⟩, h.frozen 0, h.frozen 1, h.frozen 2, h.frozen 3, h.frozen 5, h.frozen 7, h.frozen 8, h.frozen 9⟩
/-- Only the words' place, the object, and what P names (or is new) have turned. -/
abbrev Kq (b be : Nat) (P : Nat → Prop) (w w' : World) : Prop := Kp (fun k => k = b ∨ k = be ∨ P k) w w'
theorem Kp.kq {b be : Nat} {P : Nat → Prop} {w w' : World} (h : Kb b w w') : Kq b be P w w' := h.mono fun _ e _ => .inl e
theorem Kn.kq {b be : Nat} {P : Nat → Prop} {w w' : World} (h : Kn w w') : Kq b be P w w' := h.mono fun _ f _ => f.elim
/-- What an element of a message leaves, told by its rows' own blocks. -/
def MgP (w : World) (b g : Nat) (cur : Array Value) (be B deep : Nat) (P : Nat → Prop) : Ms → List Wd → Value → World → Prop :=
  fun x l v w' => v = .tuple #[] ∧ (∃ V C, Mg w' b g cur be B deep x V C l ∧ ∀ k, k ∈ owns (mrows x V) ∨ w'.heap.size ≤ k → P k) ∧ Kq b be P w w'
theorem MgP.k {w w' : World} {b g : Nat} {cur : Array Value} {be B deep : Nat} {r : Pz Ms} {e : Ending} (h : PzQ r (Kq b be (fun k => B ≤ k) w) (MgP w b g cur be B deep (fun k => B ≤ k)) e w') : PzQ r (Kd b be B w) (MgK w b g cur be B deep) e w' := by
  cases r with
  | no p c => exact h
  | ok x l =>
    obtain ⟨v, h1, h2, ⟨V, C, h3, _⟩, h4⟩ := h
    exact ⟨v, h1, h2, ⟨V, C, h3⟩, h4⟩
theorem Mg.pB {w : World} {b g : Nat} {cur : Array Value} {be B deep : Nat} {x : Ms} {V : MV} {C : List Nat} {l : List Wd} (h : Mg w b g cur be B deep x V C l) : ∀ k, k ∈ owns (mrows x V) ∨ w.heap.size ≤ k → B ≤ k :=
  fun k hk => hk.elim (fun h1 => (h.rows.own_lt k h1).1) (fun h1 => Nat.le_trans h.sz h1)
end
section
open Go.RowKit
set_option linter.unusedVariables false
set_option linter.unusedSimpArgs false

section
variable {w : World} {b g : Nat} {cur : Array Value} {l : List Wd}
set_option maxRecDepth 100000 in
set_option maxHeartbeats 2000000 in
theorem named_p {be B deep : Nat} {x : Ms} {V : MV} {C : List Nat} (h : Mg w b g cur be B deep x V C l) (f : Fd) (hal : x.flds.length ≤ 1000000) (P : Nat → Prop) (hP : ∀ k, k ∈ owns (mrows x V) ∨ w.heap.size ≤ k → P k) :
    Calls Tryz.prog 248 #[.pointer (some ⟨be, 0, none⟩), .agg #[.string f.name, .string f.typ, .string f.key, .string f.json, .int .i64 f.card, .int .i64 f.num, .int .i64 f.oneof, .int .i64 f.at_, .int .i64 f.tat, .int .i64 f.nat_]] w
    (PzQ (addF x (namedP f l)) (Kq b be P w) (MgP w b g cur be B deep P)) := by
  obtain ⟨i0, hi0, hz0, hz1, hz2⟩ := info_parts Tryz.info97
  rcases V with ⟨vf, vo, vm, ve, vr, vn⟩
  obtain ⟨R, hR⟩ : ∃ R, R = addF x (namedP f l) := ⟨_, rfl⟩
  rw [← hR]
  unfold addF namedP at hR
  have HR := Lib.hid hR
  have H := Lib.hid h
  obtain ⟨A1, c1, hv1, -, -⟩ := h.rows.val (j := 0) rfl
  simp only at hv1
  subst hv1
  have HV := Lib.hid (show Mr w (w.alloc (.cells #[.string f.name, .string f.typ, .string f.key, .string f.json, .int .i64 f.card, .int .i64 f.num, .int .i64 f.oneof, .int .i64 f.at_, .int .i64 f.tat, .int .i64 f.nat_] 97)) b g cur be B deep x ⟨.slice A1 x.flds.length c1, vo, vm, ve, vr, vn⟩ C l w.heap.size 97 #[.string f.name, .string f.typ, .string f.key, .string f.json, .int .i64 f.card, .int .i64 f.num, .int .i64 f.oneof, .int .i64 f.at_, .int .i64 f.tat, .int .i64 f.nat_] from
    ⟨h.alloc _, (Kp.refl _ w).alloc _, Blk.new w 97 _, h.blk.lt, fun i hi => (h.rows.all_lt i hi).2, Nat.le_refl _⟩)
  have HP := Lib.hid hP
  clear h hR hP
  go_enter Tryz.func248, Tryz.ntmps248
  obtain ⟨d0, hlt1⟩ := HV.out.es.ptr
  go_wp2_with fail
  generalize w.heap.size = q at *
  have HX := Lib.hid (of_any HV.out.es.ps 1 (by decide))
  refine HX.out.mono ?_
  intro e w1 hq
  clear d0
  cases hr : ofP 1 l with
  | no p c =>
    rw [hr] at hq
    obtain ⟨rfl, hk⟩ := hq
    have HKn := Lib.hid (HV.out.kp.trans hk)
    have HRn := Lib.hid (show R = .no p c by rw [HR.out, hr]; first | rfl | skip)
    clear hk hr HR HX
    unfold Stp stopV
    go_wp2_with fail
    rw [HRn.out]
    exact ⟨rfl, rfl, Kp.kq HKn.out⟩
  | ok y1 l1' =>
    rw [hr] at hq
    obtain ⟨v, rfl, rfl, rfl, rfl, hp, hk⟩ := hq
    have hR1 := HR.out
    rw [hr] at hR1
    simp only [Pz.and] at hR1
    have HR1 := Lib.hid hR1
    have HV1' := Lib.hid (HV.out.next hp hk)
    generalize hdW l = y1 at *
    have HV1b := Lib.hid (HV1'.out.alloc (.cells #[.int .i64 y1.k, .int .i64 y1.p, .string y1.t, .int .i64 y1.n] 73))
    have HY := Lib.hid (Blk.new w1 73 #[.int .i64 y1.k, .int .i64 y1.p, .string y1.t, .int .i64 y1.n])
    have hqp : q < w1.heap.size := HV1'.out.bl.lt
    clear hk hr HR HX hp hR1 HV HV1'
    unfold wV
    go_wp2_with fail
    generalize World.alloc w1 _ = wy1 at *
    generalize w1.heap.size = p1 at *
    obtain ⟨⟨m0, m1, m2, m3, m4, m5, m6, m7, m8, m9⟩, f0, f1, f2, f3, f5, f7, f8, f9⟩ := HV1b.out.bl.ten_
    obtain ⟨-, yc1, yc2, -, -, -, -, -⟩ := HY.out.four_
    have hqp1 : ¬ q = p1 := by omega
    have hqp2 : ¬ p1 = q := by omega
    go_region_held2 (fun w' => w'.cell? ⟨p1, 1, none⟩ = some (.int .i64 y1.p) ∧ w'.cell? ⟨p1, 2, none⟩ = some (.string y1.t)) (first | exact ⟨yc1, yc2⟩ | assumption | go_keep) (fail)
    have HV1 := Lib.hid (show Mr w (World.drew (World.setCell (World.setCell wy1 ⟨q, 0, none⟩ (.string y1.t)) ⟨q, 7, none⟩ (.int .i64 y1.p))) b g cur be B deep x ⟨.slice A1 x.flds.length c1, vo, vm, ve, vr, vn⟩ C l.tail q 97 #[.string y1.t, .string f.typ, .string f.key, .string f.json, .int .i64 f.card, .int .i64 f.num, .int .i64 f.oneof, .int .i64 y1.p, .int .i64 f.tat, .int .i64 f.nat_] from ((HV1b.out.set 0 (.string y1.t)).set 7 (.int .i64 y1.p)).drew)
    clear HV1b HY yc1 yc2 m0 m1 m2 m3 m4 m5 m6 m7 m8 m9 f0 f1 f2 f3 f5 f7 f8 f9 hqp1 hqp2
    generalize World.drew (World.setCell (World.setCell wy1 _ _) _ _) = wb1 at *
    obtain ⟨d0, hlt2⟩ := HV1.out.es.ptr
    go_wp2_with fail
    have HX := Lib.hid (exp_at [kEq] #[.string kEq] 1 rfl rfl (by decide) (by decide) HV1.out.es.ps)
    refine HX.out.mono ?_
    intro e w2 hq
    clear d0
    cases hr : expP [kEq] l.tail with
    | no p c =>
      rw [hr] at hq
      obtain ⟨rfl, hk⟩ := hq
      have HKn := Lib.hid (HV1.out.kp.trans hk)
      have HRn := Lib.hid (show R = .no p c by rw [HR1.out, hr]; first | rfl | skip)
      clear hk hr HR1 HX
      unfold Stp stopV
      go_wp2_with fail
      rw [HRn.out]
      exact ⟨rfl, rfl, Kp.kq HKn.out⟩
    | ok u l2 =>
      rw [hr] at hq
      obtain ⟨v, rfl, rfl, hp, hk⟩ := hq
      have hR2 := HR1.out
      rw [hr] at hR2
      first | (simp only [Pz.and] at hR2; done) | skip
      have HR2 := Lib.hid hR2
      have HV2 := Lib.hid (HV1.out.next hp hk)
      clear hk hr HR1 HX hp hR2 HV1
      obtain ⟨d0, hlt3⟩ := HV2.out.es.ptr
      go_wp2_with fail
      have HX := Lib.hid (of_any HV2.out.es.ps 2 (by decide))
      refine HX.out.mono ?_
      intro e w3 hq
      clear d0
      cases hr : ofP 2 l2 with
      | no p c =>
        rw [hr] at hq
        obtain ⟨rfl, hk⟩ := hq
        have HKn := Lib.hid (HV2.out.kp.trans hk)
        have HRn := Lib.hid (show R = .no p c by rw [HR2.out, hr]; first | rfl | skip)
        clear hk hr HR2 HX
        unfold Stp stopV
        go_wp2_with fail
        rw [HRn.out]
        exact ⟨rfl, rfl, Kp.kq HKn.out⟩
      | ok y3 l3' =>
        rw [hr] at hq
        obtain ⟨v, rfl, rfl, rfl, rfl, hp, hk⟩ := hq
        have hR3 := HR2.out
        rw [hr] at hR3
        simp only [Pz.and] at hR3
        have HR3 := Lib.hid hR3
        have HV3' := Lib.hid (HV2.out.next hp hk)
        generalize hdW l2 = y3 at *
        have HV3b := Lib.hid (HV3'.out.alloc (.cells #[.int .i64 y3.k, .int .i64 y3.p, .string y3.t, .int .i64 y3.n] 73))
        have HY := Lib.hid (Blk.new w3 73 #[.int .i64 y3.k, .int .i64 y3.p, .string y3.t, .int .i64 y3.n])
        have hqp : q < w3.heap.size := HV3'.out.bl.lt
        clear hk hr HR2 HX hp hR3 HV2 HV3'
        unfold wV
        go_wp2_with fail
        generalize World.alloc w3 _ = wy3 at *
        generalize w3.heap.size = p3 at *
        obtain ⟨⟨m0, m1, m2, m3, m4, m5, m6, m7, m8, m9⟩, f0, f1, f2, f3, f5, f7, f8, f9⟩ := HV3b.out.bl.ten_
        obtain ⟨-, yc1, -, yc2, -, -, -, -⟩ := HY.out.four_
        have hqp1 : ¬ q = p3 := by omega
        have hqp2 : ¬ p3 = q := by omega
        go_region_held2 (fun w' => w'.cell? ⟨p3, 1, none⟩ = some (.int .i64 y3.p) ∧ w'.cell? ⟨p3, 3, none⟩ = some (.int .i64 y3.n)) (first | exact ⟨yc1, yc2⟩ | assumption | go_keep) (fail)
        have HV3 := Lib.hid (show Mr w (World.drew (World.setCell (World.setCell wy3 ⟨q, 5, none⟩ (.int .i64 y3.n)) ⟨q, 9, none⟩ (.int .i64 y3.p))) b g cur be B deep x ⟨.slice A1 x.flds.length c1, vo, vm, ve, vr, vn⟩ C l2.tail q 97 #[.string y1.t, .string f.typ, .string f.key, .string f.json, .int .i64 f.card, .int .i64 y3.n, .int .i64 f.oneof, .int .i64 y1.p, .int .i64 f.tat, .int .i64 y3.p] from ((HV3b.out.set 5 (.int .i64 y3.n)).set 9 (.int .i64 y3.p)).drew)
        clear HV3b HY yc1 yc2 m0 m1 m2 m3 m4 m5 m6 m7 m8 m9 f0 f1 f2 f3 f5 f7 f8 f9 hqp1 hqp2
        generalize World.drew (World.setCell (World.setCell wy3 _ _) _ _) = wb3 at *
        obtain ⟨d0, hlt4⟩ := HV3.out.es.ptr
        have HT := Lib.hid (takes_any HV3.out.es.ps kLbr (by decide))
        go_wp2_with fail
        refine HT.out.mono ?_
        rintro e w4 ⟨h1, hk⟩
        clear d0
        rcases h1 with ⟨hq, rfl, hp, hg9⟩ | ⟨hq, rfl, hp⟩
        · have HV4 := Lib.hid (HV3.out.next hp hk)
          have hR4 := HR3.out
          rw [if_pos hq] at hR4
          have HR4 := Lib.hid hR4
          clear HT hp hk hg9 hq HV3 HR3 hR4
          obtain ⟨d0, hlt5⟩ := HV4.out.es.ptr
          go_wp2_with fail
          have HX := Lib.hid (exp_at [kJson, kEq] #[.string kJson, .string kEq] 2 rfl rfl (by decide) (by decide) HV4.out.es.ps)
          refine HX.out.mono ?_
          intro e w5 hq
          clear d0
          cases hr : expP [kJson, kEq] l2.tail.tail with
          | no p c =>
            rw [hr] at hq
            obtain ⟨rfl, hk⟩ := hq
            have HKn := Lib.hid (HV4.out.kp.trans hk)
            have HRn := Lib.hid (show R = .no p c by rw [HR4.out, hr]; first | rfl | skip)
            clear hk hr HR4 HX
            unfold Stp stopV
            go_wp2_with fail
            rw [HRn.out]
            exact ⟨rfl, rfl, Kp.kq HKn.out⟩
          | ok u l5 =>
            rw [hr] at hq
            obtain ⟨v, rfl, rfl, hp, hk⟩ := hq
            have hR5 := HR4.out
            rw [hr] at hR5
            first | (simp only [Pz.and] at hR5; done) | skip
            have HR5 := Lib.hid hR5
            have HV5 := Lib.hid (HV4.out.next hp hk)
            clear hk hr HR4 HX hp hR5 HV4
            obtain ⟨d0, hlt6⟩ := HV5.out.es.ptr
            have f2' := fld2
            go_wp2_with fail
            have HX := Lib.hid (of_any HV5.out.es.ps 3 (by decide))
            refine HX.out.mono ?_
            intro e w6 hq
            clear d0
            cases hr : ofP 3 l5 with
            | no p c =>
              rw [hr] at hq
              obtain ⟨rfl, hk⟩ := hq
              have HKn := Lib.hid (HV5.out.kp.trans hk)
              have HRn := Lib.hid (show R = .no p c by rw [HR5.out, hr]; first | rfl | skip)
              clear hk hr HR5 HX
              unfold Stp stopV
              go_wp2_with fail
              rw [HRn.out]
              exact ⟨rfl, rfl, Kp.kq HKn.out⟩
            | ok y6 l6' =>
              rw [hr] at hq
              obtain ⟨v, rfl, rfl, rfl, rfl, hp, hk⟩ := hq
              have hR6 := HR5.out
              rw [hr] at hR6
              simp only [Pz.and] at hR6
              have HR6 := Lib.hid hR6
              have HV6' := Lib.hid (HV5.out.next hp hk)
              generalize hdW l5 = y6 at *
              obtain ⟨⟨m0, m1, m2, m3, m4, m5, m6, m7, m8, m9⟩, f0, f1, f2, f3, f5, f7, f8, f9⟩ := HV6'.out.bl.ten_
              obtain ⟨d0, hltb6⟩ := HV6'.out.es.ptr
              have hqb6 : be ≠ q := by have := HV6'.out.qb; omega
              have HV6 := Lib.hid (show Mr w (World.setCell w6 ⟨q, 3, none⟩ (.string y6.t)) b g cur be B deep x ⟨.slice A1 x.flds.length c1, vo, vm, ve, vr, vn⟩ C l5.tail q 97 #[.string y1.t, .string f.typ, .string f.key, .string y6.t, .int .i64 f.card, .int .i64 y3.n, .int .i64 f.oneof, .int .i64 y1.p, .int .i64 f.tat, .int .i64 y3.p] from HV6'.out.set 3 (.string y6.t))
              clear hk hr HR5 HX hp hR6 HV5 HV6'
              unfold wV
              obtain ⟨d0, hlt7⟩ := HV6.out.es.ptr
              have hsz : (World.setCell w6 ⟨q, 3, none⟩ (.string y6.t)).heap.size = w6.heap.size := by simp
              go_wp2_with fail
              have HX := Lib.hid (exp_at [kRbr] #[.string kRbr] 1 rfl rfl (by decide) (by decide) HV6.out.es.ps)
              rw [hsz] at HX
              refine HX.out.mono ?_
              intro e w7 hq
              clear d0
              cases hr : expP [kRbr] l5.tail with
              | no p c =>
                rw [hr] at hq
                obtain ⟨rfl, hk⟩ := hq
                have HKn := Lib.hid (HV6.out.kp.trans hk)
                have HRn := Lib.hid (show R = .no p c by rw [HR6.out, hr]; first | rfl | skip)
                clear hk hr HR6 HX
                unfold Stp stopV
                go_wp2_with fail
                rw [HRn.out]
                exact ⟨rfl, rfl, Kp.kq HKn.out⟩
              | ok u l7 =>
                rw [hr] at hq
                obtain ⟨v, rfl, rfl, hp, hk⟩ := hq
                have hR7 := HR6.out
                rw [hr] at hR7
                first | (simp only [Pz.and] at hR7; done) | skip
                have HR7 := Lib.hid hR7
                have HV7 := Lib.hid (HV6.out.next hp hk)
                clear hk hr HR6 HX hp hR7 HV6
                clear d0 m0 m1 m2 m3 m4 m5 m6 m7 m8 m9 f0 f1 f2 f3 f5 f7 f8 f9 hsz
                obtain ⟨d0, hlt8⟩ := HV7.out.es.ptr
                go_wp2_with fail
                have HX := Lib.hid (exp_at [kSemi] #[.string kSemi] 1 rfl rfl (by decide) (by decide) HV7.out.es.ps)
                refine HX.out.mono ?_
                intro e w8 hq
                clear d0
                cases hr : expP [kSemi] l7 with
                | no p c =>
                  rw [hr] at hq
                  obtain ⟨rfl, hk⟩ := hq
                  have HKn := Lib.hid (HV7.out.kp.trans hk)
                  have HRn := Lib.hid (show R = .no p c by rw [HR7.out, hr]; first | rfl | skip)
                  clear hk hr HR7 HX
                  unfold Stp stopV
                  go_wp2_with fail
                  rw [HRn.out]
                  exact ⟨rfl, rfl, Kp.kq HKn.out⟩
                | ok u l8 =>
                  rw [hr] at hq
                  obtain ⟨v, rfl, rfl, hp, hk⟩ := hq
                  have hR8 := HR7.out
                  rw [hr] at hR8
                  first | (simp only [Pz.and] at hR8; done) | skip
                  have HR8 := Lib.hid hR8
                  have HV8 := Lib.hid (HV7.out.next hp hk)
                  clear hk hr HR7 HX hp hR8 HV7
                  obtain ⟨d0, hltf8⟩ := HV8.out.es.ptr
                  have d3 : w8.cell? ⟨be, 3, none⟩ = some (.slice A1 x.flds.length c1) := HV8.out.es.blk.cell 3
                  have y3' : w8.frozen? ⟨be, 3, none⟩ = false := HV8.out.es.blk.frozen 3
                  obtain ⟨⟨m0, m1, m2, m3, m4, m5, m6, m7, m8, m9⟩, -⟩ := HV8.out.bl.ten_
                  have HBZ := Lib.hid (show B ≤ (w8.drew.alloc (.cells #[.string y1.t, .string f.typ, .string f.key, .string y6.t, .int .i64 f.card, .int .i64 y3.n, .int .i64 f.oneof, .int .i64 y1.p, .int .i64 f.tat, .int .i64 y3.p] 97)).heap.size by rw [World.size_alloc]; show _ ≤ w8.heap.size + 1; have := HV8.out.es.sz; omega)
                  have HQ := Lib.hid (show R = .ok { x with flds := x.flds ++ [⟨y1.t, f.typ, f.key, y6.t, f.card, y3.n, f.oneof, y1.p, f.tat, y3.p⟩] } l8 by rw [HR8.out]; first | rfl | skip)
                  clear HR8
                  go_wp2_with fail
                  go_region_law (first
                    | (refine step_append_rows _ (by rfl) _ _ 45 (by rfl) (HV8.out.es.drew.alloc (.cells #[.string y1.t, .string f.typ, .string f.key, .string y6.t, .int .i64 f.card, .int .i64 y3.n, .int .i64 f.oneof, .int .i64 y1.p, .int .i64 f.tat, .int .i64 y3.p] 97)).rows 0 (rwFd x.flds (.slice A1 x.flds.length c1)) (by rfl) i0 _ 112 Tryz.underlying45 hi0 hz0 hz1 hz2 (by rfl) (Nat.succ_pos 9) (by rfl) w8.heap.size (by rfl) _ (Fd.dv ⟨y1.t, f.typ, f.key, y6.t, f.card, y3.n, f.oneof, y1.p, f.tat, y3.p⟩) (Blk.new w8.drew 97 _) (by rfl) (Fd.mem _ B ⟨y1.t, f.typ, f.key, y6.t, f.card, y3.n, f.oneof, y1.p, f.tat, y3.p⟩) (by intro q hq; cases hq) hal (by decide) HBZ.out ?_; intro v6 wf ho6 hg6 hv6; have HO6 := Lib.hid ho6; have HG6 := Lib.hid hg6; have HW6 := Lib.hid hv6; have HB6 := Lib.hid (Blk.kp (HV8.out.es.drew.alloc (.cells #[.string y1.t, .string f.typ, .string f.key, .string y6.t, .int .i64 f.card, .int .i64 y3.n, .int .i64 f.oneof, .int .i64 y1.p, .int .i64 f.tat, .int .i64 y3.p] 97)).blk (Kp.of_grown hg6) (fun e => by have := ((HV8.out.es.drew.alloc (.cells #[.string y1.t, .string f.typ, .string f.key, .string y6.t, .int .i64 f.card, .int .i64 y3.n, .int .i64 f.oneof, .int .i64 y1.p, .int .i64 f.tat, .int .i64 y3.p] 97)).rows.own_mem (j := 0) rfl e.symm).2.1; have := HV8.out.es.lB; omega)); obtain ⟨A6, c6, e6, -, -⟩ := ho6.val (j := 0) rfl; simp only at e6; subst e6; have f3' : wf.frozen? ⟨be, 3, none⟩ = false := HB6.out.frozen 3; have q3' : wf.cell? ⟨be, 3, none⟩ = some (.slice A1 x.flds.length c1) := HB6.out.cell 3; clear ho6 hg6 hv6))
                  all_goals
                    rw [HQ.out]
                    go_end0
                    have hne : be ≠ b := by have := HV8.out.es.lb; omega
                    have hng : be ≠ g := by have := HV8.out.es.lg; omega
                    have hown : ∀ i, (Value.slice A1 x.flds.length c1).ownBlock = some i → B ≤ i := fun i hi => (HV8.out.es.rows.own_mem (j := 0) rfl hi).2.1
                    have h6 := HO6.out
                    rw [List.append_nil, rwFd_snoc x.flds ⟨y1.t, f.typ, f.key, y6.t, f.card, y3.n, f.oneof, y1.p, f.tat, y3.p⟩ (.slice none 0 0) _] at h6
                    have hp6 : Ps wf b g cur l8 := (HV8.out.es.drew.alloc _).ps.kp (Kp.of_grown HG6.out) (fun e => by have := hown b e.symm; have := HV8.out.es.lb; have := HV8.out.es.lB; omega) (fun e => by have := hown g e.symm; have := HV8.out.es.lg; have := HV8.out.es.lB; omega)
                    have hk6 : Kq b be P w wf := (Kp.kq (HV8.out.kp.drew.alloc (.cells #[.string y1.t, .string f.typ, .string f.key, .string y6.t, .int .i64 f.card, .int .i64 y3.n, .int .i64 f.oneof, .int .i64 y1.p, .int .i64 f.tat, .int .i64 y3.p] 97)) : Kq b be P w _).grown HG6.out fun i hi _ => .inr (.inr (HP.out i (.inl (HV8.out.es.rows.own_mem (j := 0) rfl hi).1)))
                    have hP6 : ∀ k, k ∈ owns (mrows { x with flds := x.flds ++ [⟨y1.t, f.typ, f.key, y6.t, f.card, y3.n, f.oneof, y1.p, f.tat, y3.p⟩] } ⟨.slice A6 (x.flds.length + 1) c6, vo, vm, ve, vr, vn⟩) ∨ wf.heap.size ≤ k → P k := by
                      rintro k (hk | hk)
                      · rcases owns_set_mem (mrows x ⟨.slice A1 x.flds.length c1, vo, vm, ve, vr, vn⟩) 0 (rwFd (x.flds ++ [⟨y1.t, f.typ, f.key, y6.t, f.card, y3.n, f.oneof, y1.p, f.tat, y3.p⟩]) (.slice A6 (x.flds.length + 1) c6)) k hk with e | e
                        · rcases HW6.out with h1 | h1
                          · exact HP.out k (.inl (HV8.out.es.rows.own_mem (j := 0) rfl (h1.symm.trans e)).1)
                          · refine HP.out k (.inr ?_)
                            have h2 := h1.symm.trans e
                            injection h2 with h2
                            have h3 := HV8.out.bl.lt
                            have h4 : w8.heap.size + 1 = k := (World.size_alloc _ _).symm.trans h2
                            omega
                        · exact HP.out k (.inl e)
                      · refine HP.out k (.inr ?_)
                        have h3 := HV8.out.bl.lt
                        have h5 : w8.heap.size + 1 ≤ wf.heap.size := Nat.le_trans (Nat.le_of_eq (World.size_alloc _ _).symm) HG6.out.size
                        omega
                    refine ⟨_, rfl, rfl, ⟨⟨.slice A6 (x.flds.length + 1) c6, vo, vm, ve, vr, vn⟩, C, ⟨hp6.far hne hng _, ?_, ?_, HV8.out.es.lb, HV8.out.es.lg, HV8.out.es.lB, by simpa using Nat.le_trans HV8.out.es.sz (show w8.heap.size ≤ wf.heap.size by have := HG6.out.size; simp at this; exact Nat.le_of_succ_le this)⟩, fun k hk => hP6 k (by simpa using hk)⟩, hk6.setCell (fun _ => .inr (.inl rfl)) _⟩
                    · exact HB6.out.set_ 3 _
                    · exact Rows_.setCell h6 HV8.out.es.lB _
        · have HV4 := Lib.hid (HV3.out.next hp hk)
          have hR4 := HR3.out
          rw [if_neg hq] at hR4
          have HR4 := Lib.hid hR4
          clear HT hp hk hq HV3 HR3 hR4
          obtain ⟨d0, hlt5⟩ := HV4.out.es.ptr
          go_wp2_with fail
          have HX := Lib.hid (exp_at [kSemi] #[.string kSemi] 1 rfl rfl (by decide) (by decide) HV4.out.es.ps)
          refine HX.out.mono ?_
          intro e w5 hq
          clear d0
          cases hr : expP [kSemi] l2.tail with
          | no p c =>
            rw [hr] at hq
            obtain ⟨rfl, hk⟩ := hq
            have HKn := Lib.hid (HV4.out.kp.trans hk)
            have HRn := Lib.hid (show R = .no p c by rw [HR4.out, hr]; first | rfl | skip)
            clear hk hr HR4 HX
            unfold Stp stopV
            go_wp2_with fail
            rw [HRn.out]
            exact ⟨rfl, rfl, Kp.kq HKn.out⟩
          | ok u l5 =>
            rw [hr] at hq
            obtain ⟨v, rfl, rfl, hp, hk⟩ := hq
            have hR5 := HR4.out
            rw [hr] at hR5
            first | (simp only [Pz.and] at hR5; done) | skip
            have HR5 := Lib.hid hR5
            have HV5 := Lib.hid (HV4.out.next hp hk)
            clear hk hr HR4 HX hp hR5 HV4
            obtain ⟨d0, hltf5⟩ := HV5.out.es.ptr
            have d3 : w5.cell? ⟨be, 3, none⟩ = some (.slice A1 x.flds.length c1) := HV5.out.es.blk.cell 3
            have y3' : w5.frozen? ⟨be, 3, none⟩ = false := HV5.out.es.blk.frozen 3
            obtain ⟨⟨m0, m1, m2, m3, m4, m5, m6, m7, m8, m9⟩, -⟩ := HV5.out.bl.ten_
            have HBZ := Lib.hid (show B ≤ (w5.drew.alloc (.cells #[.string y1.t, .string f.typ, .string f.key, .string f.json, .int .i64 f.card, .int .i64 y3.n, .int .i64 f.oneof, .int .i64 y1.p, .int .i64 f.tat, .int .i64 y3.p] 97)).heap.size by rw [World.size_alloc]; show _ ≤ w5.heap.size + 1; have := HV5.out.es.sz; omega)
            have HQ := Lib.hid (show R = .ok { x with flds := x.flds ++ [⟨y1.t, f.typ, f.key, f.json, f.card, y3.n, f.oneof, y1.p, f.tat, y3.p⟩] } l5 by rw [HR5.out]; first | rfl | skip)
            clear HR5
            go_wp2_with fail
            go_region_law (first
              | (refine step_append_rows _ (by rfl) _ _ 45 (by rfl) (HV5.out.es.drew.alloc (.cells #[.string y1.t, .string f.typ, .string f.key, .string f.json, .int .i64 f.card, .int .i64 y3.n, .int .i64 f.oneof, .int .i64 y1.p, .int .i64 f.tat, .int .i64 y3.p] 97)).rows 0 (rwFd x.flds (.slice A1 x.flds.length c1)) (by rfl) i0 _ 112 Tryz.underlying45 hi0 hz0 hz1 hz2 (by rfl) (Nat.succ_pos 9) (by rfl) w5.heap.size (by rfl) _ (Fd.dv ⟨y1.t, f.typ, f.key, f.json, f.card, y3.n, f.oneof, y1.p, f.tat, y3.p⟩) (Blk.new w5.drew 97 _) (by rfl) (Fd.mem _ B ⟨y1.t, f.typ, f.key, f.json, f.card, y3.n, f.oneof, y1.p, f.tat, y3.p⟩) (by intro q hq; cases hq) hal (by decide) HBZ.out ?_; intro v6 wf ho6 hg6 hv6; have HO6 := Lib.hid ho6; have HG6 := Lib.hid hg6; have HW6 := Lib.hid hv6; have HB6 := Lib.hid (Blk.kp (HV5.out.es.drew.alloc (.cells #[.string y1.t, .string f.typ, .string f.key, .string f.json, .int .i64 f.card, .int .i64 y3.n, .int .i64 f.oneof, .int .i64 y1.p, .int .i64 f.tat, .int .i64 y3.p] 97)).blk (Kp.of_grown hg6) (fun e => by have := ((HV5.out.es.drew.alloc (.cells #[.string y1.t, .string f.typ, .string f.key, .string f.json, .int .i64 f.card, .int .i64 y3.n, .int .i64 f.oneof, .int .i64 y1.p, .int .i64 f.tat, .int .i64 y3.p] 97)).rows.own_mem (j := 0) rfl e.symm).2.1; have := HV5.out.es.lB; omega)); obtain ⟨A6, c6, e6, -, -⟩ := ho6.val (j := 0) rfl; simp only at e6; subst e6; have f3' : wf.frozen? ⟨be, 3, none⟩ = false := HB6.out.frozen 3; have q3' : wf.cell? ⟨be, 3, none⟩ = some (.slice A1 x.flds.length c1) := HB6.out.cell 3; clear ho6 hg6 hv6))
            all_goals
              rw [HQ.out]
              go_end0
              have hne : be ≠ b := by have := HV5.out.es.lb; omega
              have hng : be ≠ g := by have := HV5.out.es.lg; omega
              have hown : ∀ i, (Value.slice A1 x.flds.length c1).ownBlock = some i → B ≤ i := fun i hi => (HV5.out.es.rows.own_mem (j := 0) rfl hi).2.1
              have h6 := HO6.out
              rw [List.append_nil, rwFd_snoc x.flds ⟨y1.t, f.typ, f.key, f.json, f.card, y3.n, f.oneof, y1.p, f.tat, y3.p⟩ (.slice none 0 0) _] at h6
              have hp6 : Ps wf b g cur l5 := (HV5.out.es.drew.alloc _).ps.kp (Kp.of_grown HG6.out) (fun e => by have := hown b e.symm; have := HV5.out.es.lb; have := HV5.out.es.lB; omega) (fun e => by have := hown g e.symm; have := HV5.out.es.lg; have := HV5.out.es.lB; omega)
              have hk6 : Kq b be P w wf := (Kp.kq (HV5.out.kp.drew.alloc (.cells #[.string y1.t, .string f.typ, .string f.key, .string f.json, .int .i64 f.card, .int .i64 y3.n, .int .i64 f.oneof, .int .i64 y1.p, .int .i64 f.tat, .int .i64 y3.p] 97)) : Kq b be P w _).grown HG6.out fun i hi _ => .inr (.inr (HP.out i (.inl (HV5.out.es.rows.own_mem (j := 0) rfl hi).1)))
              have hP6 : ∀ k, k ∈ owns (mrows { x with flds := x.flds ++ [⟨y1.t, f.typ, f.key, f.json, f.card, y3.n, f.oneof, y1.p, f.tat, y3.p⟩] } ⟨.slice A6 (x.flds.length + 1) c6, vo, vm, ve, vr, vn⟩) ∨ wf.heap.size ≤ k → P k := by
                rintro k (hk | hk)
                · rcases owns_set_mem (mrows x ⟨.slice A1 x.flds.length c1, vo, vm, ve, vr, vn⟩) 0 (rwFd (x.flds ++ [⟨y1.t, f.typ, f.key, f.json, f.card, y3.n, f.oneof, y1.p, f.tat, y3.p⟩]) (.slice A6 (x.flds.length + 1) c6)) k hk with e | e
                  · rcases HW6.out with h1 | h1
                    · exact HP.out k (.inl (HV5.out.es.rows.own_mem (j := 0) rfl (h1.symm.trans e)).1)
                    · refine HP.out k (.inr ?_)
                      have h2 := h1.symm.trans e
                      injection h2 with h2
                      have h3 := HV5.out.bl.lt
                      have h4 : w5.heap.size + 1 = k := (World.size_alloc _ _).symm.trans h2
                      omega
                  · exact HP.out k (.inl e)
                · refine HP.out k (.inr ?_)
                  have h3 := HV5.out.bl.lt
                  have h5 : w5.heap.size + 1 ≤ wf.heap.size := Nat.le_trans (Nat.le_of_eq (World.size_alloc _ _).symm) HG6.out.size
                  omega
              refine ⟨_, rfl, rfl, ⟨⟨.slice A6 (x.flds.length + 1) c6, vo, vm, ve, vr, vn⟩, C, ⟨hp6.far hne hng _, ?_, ?_, HV5.out.es.lb, HV5.out.es.lg, HV5.out.es.lB, by simpa using Nat.le_trans HV5.out.es.sz (show w5.heap.size ≤ wf.heap.size by have := HG6.out.size; simp at this; exact Nat.le_of_succ_le this)⟩, fun k hk => hP6 k (by simpa using hk)⟩, hk6.setCell (fun _ => .inr (.inl rfl)) _⟩
              · exact HB6.out.set_ 3 _
              · exact Rows_.setCell h6 HV5.out.es.lB _
theorem named_any {be B deep : Nat} {x : Ms} {V : MV} {C : List Nat} (h : Mg w b g cur be B deep x V C l) (f : Fd) (hal : x.flds.length ≤ 1000000) :
    Calls Tryz.prog 248 #[.pointer (some ⟨be, 0, none⟩), .agg #[.string f.name, .string f.typ, .string f.key, .string f.json, .int .i64 f.card, .int .i64 f.num, .int .i64 f.oneof, .int .i64 f.at_, .int .i64 f.tat, .int .i64 f.nat_]] w
    (PzQ (addF x (namedP f l)) (Kd b be B w) (MgK w b g cur be B deep)) := (named_p h f hal (fun k => B ≤ k) h.pB).mono fun _ _ h => MgP.k h
end
end
section
open Go.RowKit
set_option linter.unusedVariables false
set_option linter.unusedSimpArgs false

section
variable {w : World} {b g : Nat} {cur : Array Value} {l : List Wd}
set_option maxRecDepth 100000 in
set_option maxHeartbeats 2000000 in
theorem typed_p {be B deep : Nat} {x : Ms} {V : MV} {C : List Nat} (h : Mg w b g cur be B deep x V C l) (card oneof : Int) (hal : x.flds.length ≤ 1000000) (P : Nat → Prop) (hP : ∀ k, k ∈ owns (mrows x V) ∨ w.heap.size ≤ k → P k) :
    Calls Tryz.prog 231 #[.pointer (some ⟨be, 0, none⟩), .int .i64 card, .int .i64 oneof] w (PzQ (addF x (typedP card oneof l)) (Kq b be P w) (MgP w b g cur be B deep P)) := by
  obtain ⟨R, hR⟩ : ∃ R, R = addF x (typedP card oneof l) := ⟨_, rfl⟩
  rw [← hR]
  unfold addF typedP at hR
  have HR := Lib.hid hR
  have H := Lib.hid h
  have HV := Lib.hid (show Mr w (w.alloc (.cells #[.string ⟨#[]⟩, .string ⟨#[]⟩, .string ⟨#[]⟩, .string ⟨#[]⟩, .int .i64 card, .int .i64 0, .int .i64 oneof, .int .i64 0, .int .i64 0, .int .i64 0] 97)) b g cur be B deep x V C l w.heap.size 97 #[.string ⟨#[]⟩, .string ⟨#[]⟩, .string ⟨#[]⟩, .string ⟨#[]⟩, .int .i64 card, .int .i64 0, .int .i64 oneof, .int .i64 0, .int .i64 0, .int .i64 0] from
    ⟨h.alloc _, (Kp.refl _ w).alloc _, Blk.new w 97 _, h.blk.lt, fun i hi => (h.rows.all_lt i hi).2, Nat.le_refl _⟩)
  obtain ⟨d0, hlt⟩ := h.ptr
  have HP := Lib.hid fun (W : World) (hW : Kb b w W) k (hk : k ∈ owns (mrows x V) ∨ W.heap.size ≤ k) => hP k (hk.imp id (Nat.le_trans hW.size))
  clear h hR hP
  go_enter Tryz.func231, Tryz.ntmps231
  go_wp2_with fail
  generalize w.heap.size = q at *
  have HX := Lib.hid (name_any HV.out.es.ps)
  refine HX.out.mono ?_
  intro e w1 hq
  clear d0
  cases hr : nameP l with
  | no p c =>
    rw [hr] at hq
    obtain ⟨rfl, hk⟩ := hq
    have HKn := Lib.hid (HV.out.kp.trans hk)
    have HRn := Lib.hid (show R = .no p c by rw [HR.out, hr]; first | rfl | skip)
    clear hk hr HR HX
    unfold Stp stopV
    go_wp2_with fail
    rw [HRn.out]
    exact ⟨rfl, rfl, Kp.kq HKn.out⟩
  | ok s1 l1 =>
    rw [hr] at hq
    obtain ⟨v, rfl, rfl, hp, hk⟩ := hq
    have hR1 := HR.out
    rw [hr] at hR1
    simp only [Pz.and] at hR1
    have HV1' := Lib.hid (HV.out.next hp hk)
    have HV1 := Lib.hid (show Mr w (World.setCell (World.setCell w1 ⟨q, 1, none⟩ (.string s1)) ⟨q, 8, none⟩ (.int .i64 (hdW l).p)) b g cur be B deep x V C l1 q 97 #[.string ⟨#[]⟩, .string s1, .string ⟨#[]⟩, .string ⟨#[]⟩, .int .i64 card, .int .i64 0, .int .i64 oneof, .int .i64 0, .int .i64 (hdW l).p, .int .i64 0] from (HV1'.out.set 1 (.string s1)).set 8 (.int .i64 (hdW l).p))
    obtain ⟨d0, hlt1⟩ := HV1'.out.es.ptr
    obtain ⟨⟨m0, m1, m2, m3, m4, m5, m6, m7, m8, m9⟩, f0, f1, f2, f3, f5, f7, f8, f9⟩ := HV1'.out.bl.ten_
    have HC := Lib.hid (named_p HV1.out.es ⟨kNone, s1, kNone, kNone, card, 0, oneof, 0, (hdW l).p, 0⟩ hal P (HP.out _ HV1.out.kp))
    have HR1 := Lib.hid (show R = addF x (namedP ⟨kNone, s1, kNone, kNone, card, 0, oneof, 0, (hdW l).p, 0⟩ l1) by rw [hR1]; rfl)
    rw [← HR1.out] at HC
    have HK1 := Lib.hid HV1.out.kp
    clear hk hr HR HX hp hR1 HV HV1'
    go_wp2_with fail
    refine HC.out.mono ?_
    intro e w2 hq
    clear d0 m0 m1 m2 m3 m4 m5 m6 m7 m8 m9 f0 f1 f2 f3 f5 f7 f8 f9 HC
    cases R with
    | no p c =>
      obtain ⟨rfl, hk⟩ := hq
      have HKn := Lib.hid ((Kp.kq HK1.out : Kq b be P w _).trans hk)
      clear hk HK1
      unfold Stp stopV
      go_wp2_with fail
      exact ⟨rfl, rfl, HKn.out⟩
    | ok x' l' =>
      obtain ⟨v, rfl, rfl, hE, hk⟩ := hq
      have HKn := Lib.hid ((Kp.kq HK1.out : Kq b be P w _).trans hk)
      have HE := Lib.hid hE
      clear hk hE HK1
      go_wp2_with fail
      go_end0
      exact ⟨_, rfl, rfl, HE.out, HKn.out⟩
theorem typed_any {be B deep : Nat} {x : Ms} {V : MV} {C : List Nat} (h : Mg w b g cur be B deep x V C l) (card oneof : Int) (hal : x.flds.length ≤ 1000000) :
    Calls Tryz.prog 231 #[.pointer (some ⟨be, 0, none⟩), .int .i64 card, .int .i64 oneof] w (PzQ (addF x (typedP card oneof l)) (Kd b be B w) (MgK w b g cur be B deep)) := (typed_p h card oneof hal (fun k => B ≤ k) h.pB).mono fun _ _ h => MgP.k h
set_option maxRecDepth 100000 in
set_option maxHeartbeats 2000000 in
theorem roomFF_any {be B deep : Nat} {x : Ms} {V : MV} {C : List Nat} (h : Mg w b g cur be B deep x V C l) :
    Calls Tryz.prog 230 #[.pointer (some ⟨be, 0, none⟩)] w fun e w' => (64 ≤ x.flds.length ∧ e = Stp (hdW l).p 5 ∨ ¬ 64 ≤ x.flds.length ∧ e = .returned (.tuple #[])) ∧ Kn w w' := by
  have HM := Lib.hid (room_any h.drew.ps x.flds.length 64)
  obtain ⟨A1, c1, hv1, -, -⟩ := h.rows.val (j := 0) rfl
  simp only at hv1
  obtain ⟨d0, hlt⟩ := h.ptr
  have d3 : w.cell? ⟨be, 3, none⟩ = some (.slice A1 x.flds.length c1) := by rw [← hv1]; exact h.blk.cell 3
  clear h hv1
  go_enter Tryz.func230, Tryz.ntmps230
  go_wp2_with fail
  go_still_tail 10, (by kernel_rfl)
  change wpList _ _ _ _ _ w.drew
  go_wp2_with fail
  refine HM.out.mono ?_
  rintro e w1 ⟨h1, hk1⟩
  have HK1 := Lib.hid (show Kn w w1 from (Kp.refl _ w).drew.trans hk1)
  clear hk1 HM d0 d3
  rcases h1 with ⟨hge, rfl⟩ | ⟨hlt4, rfl⟩
  · have HG := Lib.hid hge
    clear hge
    unfold Stp stopV
    go_wp2_with fail
    exact ⟨rfl, .inl ⟨HG.out, rfl⟩, HK1.out⟩
  · have HG := Lib.hid hlt4
    clear hlt4
    go_wp2_with fail
    go_end0
    exact ⟨.inr ⟨HG.out, rfl⟩, HK1.out⟩
end
end
section
open Go.RowKit
set_option linter.unusedVariables false
set_option linter.unusedSimpArgs false

section
variable {w : World} {b g : Nat} {cur : Array Value} {l : List Wd}
set_option maxRecDepth 100000 in
set_option maxHeartbeats 2000000 in
theorem plain_any {be B deep : Nat} {x : Ms} {V : MV} {C : List Nat} (h : Mg w b g cur be B deep x V C l) :
    Calls Tryz.prog 202 #[.pointer (some ⟨be, 0, none⟩)] w (PzQ (roomP x.flds.length 64 l (addF x (typedP 1 (-1) l))) (Kd b be B w) (MgK w b g cur be B deep)) := by
  obtain ⟨R, hR⟩ : ∃ R, R = roomP x.flds.length 64 l (addF x (typedP 1 (-1) l)) := ⟨_, rfl⟩
  rw [← hR]
  unfold roomP at hR
  have HR := Lib.hid hR
  have H := Lib.hid h
  have HM := Lib.hid (roomFF_any h)
  clear h hR
  go_enter Tryz.func202, Tryz.ntmps202
  go_wp2_with fail
  refine HM.out.mono ?_
  rintro e w1 ⟨h1, hk1⟩
  have HK1 := Lib.hid hk1
  have HE1 := Lib.hid (H.out.kn hk1)
  clear hk1 HM
  rcases h1 with ⟨hge, rfl⟩ | ⟨hlt4, rfl⟩
  · have HR2 := Lib.hid (show R = .no (hdW l).p 5 by rw [HR.out, if_pos hge])
    clear hge HR
    unfold Stp stopV
    go_wp2_with fail
    rw [HR2.out]
    exact ⟨rfl, rfl, Kn.kd HK1.out⟩
  · have hR2 := HR.out
    rw [if_neg hlt4] at hR2
    have hal : x.flds.length ≤ 1000000 := by omega
    have HR2 := Lib.hid hR2
    clear HR hR2 hlt4
    have HE2 := HE1
    have HK2 := Lib.hid (Kn.kb HK1.out b)
    clear HE1 HK1
    have HC := Lib.hid (typed_any HE2.out 1 (-1) hal)
    rw [← HR2.out] at HC
    clear HR2 HE2
    go_wp2_with fail
    refine HC.out.mono ?_
    intro e w3 hq
    clear HC
    cases R with
    | no p c =>
      obtain ⟨rfl, hk⟩ := hq
      have HKn := Lib.hid ((Kp.kd HK2.out : Kd b be B w _).trans hk)
      clear hk HK2
      unfold Stp stopV
      go_wp2_with fail
      exact ⟨rfl, rfl, HKn.out⟩
    | ok x' l' =>
      obtain ⟨v, rfl, rfl, hE, hk⟩ := hq
      have HKn := Lib.hid ((Kp.kd HK2.out : Kd b be B w _).trans hk)
      have HE := Lib.hid hE
      clear hk hE HK2
      go_wp2_with fail
      go_end0
      exact ⟨_, rfl, rfl, HE.out, HKn.out⟩
set_option maxRecDepth 100000 in
set_option maxHeartbeats 2000000 in
theorem optional_any {be B deep : Nat} {x : Ms} {V : MV} {C : List Nat} (h : Mg w b g cur be B deep x V C l) (hk0 : (hdW l).k ≠ 0) :
    Calls Tryz.prog 227 #[.pointer (some ⟨be, 0, none⟩)] w (PzQ (roomP x.flds.length 64 l (addF x (typedP 2 (-1) l.tail))) (Kd b be B w) (MgK w b g cur be B deep)) := by
  obtain ⟨R, hR⟩ : ∃ R, R = roomP x.flds.length 64 l (addF x (typedP 2 (-1) l.tail)) := ⟨_, rfl⟩
  rw [← hR]
  unfold roomP at hR
  have HR := Lib.hid hR
  have H := Lib.hid h
  have HM := Lib.hid (roomFF_any h)
  clear h hR
  go_enter Tryz.func227, Tryz.ntmps227
  go_wp2_with fail
  refine HM.out.mono ?_
  rintro e w1 ⟨h1, hk1⟩
  have HK1 := Lib.hid hk1
  have HE1 := Lib.hid (H.out.kn hk1)
  clear hk1 HM
  rcases h1 with ⟨hge, rfl⟩ | ⟨hlt4, rfl⟩
  · have HR2 := Lib.hid (show R = .no (hdW l).p 5 by rw [HR.out, if_pos hge])
    clear hge HR
    unfold Stp stopV
    go_wp2_with fail
    rw [HR2.out]
    exact ⟨rfl, rfl, Kn.kd HK1.out⟩
  · have hR2 := HR.out
    rw [if_neg hlt4] at hR2
    have hal : x.flds.length ≤ 1000000 := by omega
    have HR2 := Lib.hid hR2
    clear HR hR2 hlt4
    have HO := Lib.hid (pass_any HE1.out.ps hk0)
    obtain ⟨d0, hlt1⟩ := HE1.out.ptr
    go_wp2_with fail
    refine HO.out.mono ?_
    rintro e w2 ⟨rfl, hp, hk⟩
    have HE2 := Lib.hid (HE1.out.next hp hk)
    have HK2 := Lib.hid ((Kn.kb HK1.out b).trans hk)
    clear HO hp hk HE1 HK1 d0
    unfold wV
    have HC := Lib.hid (typed_any HE2.out 2 (-1) hal)
    rw [← HR2.out] at HC
    clear HR2 HE2
    go_wp2_with fail
    refine HC.out.mono ?_
    intro e w3 hq
    clear HC
    cases R with
    | no p c =>
      obtain ⟨rfl, hk⟩ := hq
      have HKn := Lib.hid ((Kp.kd HK2.out : Kd b be B w _).trans hk)
      clear hk HK2
      unfold Stp stopV
      go_wp2_with fail
      exact ⟨rfl, rfl, HKn.out⟩
    | ok x' l' =>
      obtain ⟨v, rfl, rfl, hE, hk⟩ := hq
      have HKn := Lib.hid ((Kp.kd HK2.out : Kd b be B w _).trans hk)
      have HE := Lib.hid hE
      clear hk hE HK2
      go_wp2_with fail
      go_end0
      exact ⟨_, rfl, rfl, HE.out, HKn.out⟩
set_option maxRecDepth 100000 in
set_option maxHeartbeats 2000000 in
theorem repeated_any {be B deep : Nat} {x : Ms} {V : MV} {C : List Nat} (h : Mg w b g cur be B deep x V C l) (hk0 : (hdW l).k ≠ 0) :
    Calls Tryz.prog 228 #[.pointer (some ⟨be, 0, none⟩)] w (PzQ (roomP x.flds.length 64 l (addF x (typedP 3 (-1) l.tail))) (Kd b be B w) (MgK w b g cur be B deep)) := by
  obtain ⟨R, hR⟩ : ∃ R, R = roomP x.flds.length 64 l (addF x (typedP 3 (-1) l.tail)) := ⟨_, rfl⟩
  rw [← hR]
  unfold roomP at hR
  have HR := Lib.hid hR
  have H := Lib.hid h
  have HM := Lib.hid (roomFF_any h)
  clear h hR
  go_enter Tryz.func228, Tryz.ntmps228
  go_wp2_with fail
  refine HM.out.mono ?_
  rintro e w1 ⟨h1, hk1⟩
  have HK1 := Lib.hid hk1
  have HE1 := Lib.hid (H.out.kn hk1)
  clear hk1 HM
  rcases h1 with ⟨hge, rfl⟩ | ⟨hlt4, rfl⟩
  · have HR2 := Lib.hid (show R = .no (hdW l).p 5 by rw [HR.out, if_pos hge])
    clear hge HR
    unfold Stp stopV
    go_wp2_with fail
    rw [HR2.out]
    exact ⟨rfl, rfl, Kn.kd HK1.out⟩
  · have hR2 := HR.out
    rw [if_neg hlt4] at hR2
    have hal : x.flds.length ≤ 1000000 := by omega
    have HR2 := Lib.hid hR2
    clear HR hR2 hlt4
    have HO := Lib.hid (pass_any HE1.out.ps hk0)
    obtain ⟨d0, hlt1⟩ := HE1.out.ptr
    go_wp2_with fail
    refine HO.out.mono ?_
    rintro e w2 ⟨rfl, hp, hk⟩
    have HE2 := Lib.hid (HE1.out.next hp hk)
    have HK2 := Lib.hid ((Kn.kb HK1.out b).trans hk)
    clear HO hp hk HE1 HK1 d0
    unfold wV
    have HC := Lib.hid (typed_any HE2.out 3 (-1) hal)
    rw [← HR2.out] at HC
    clear HR2 HE2
    go_wp2_with fail
    refine HC.out.mono ?_
    intro e w3 hq
    clear HC
    cases R with
    | no p c =>
      obtain ⟨rfl, hk⟩ := hq
      have HKn := Lib.hid ((Kp.kd HK2.out : Kd b be B w _).trans hk)
      clear hk HK2
      unfold Stp stopV
      go_wp2_with fail
      exact ⟨rfl, rfl, HKn.out⟩
    | ok x' l' =>
      obtain ⟨v, rfl, rfl, hE, hk⟩ := hq
      have HKn := Lib.hid ((Kp.kd HK2.out : Kd b be B w _).trans hk)
      have HE := Lib.hid hE
      clear hk hE HK2
      go_wp2_with fail
      go_end0
      exact ⟨_, rfl, rfl, HE.out, HKn.out⟩
end
end
section
open Go.RowKit
set_option linter.unusedVariables false
set_option linter.unusedSimpArgs false

section
variable {w : World} {b g : Nat} {cur : Array Value} {l : List Wd}
set_option maxRecDepth 100000 in
set_option maxHeartbeats 2000000 in
theorem mapped_any {be B deep : Nat} {x : Ms} {V : MV} {C : List Nat} (h : Mg w b g cur be B deep x V C l) (hk0 : (hdW l).k ≠ 0) :
    Calls Tryz.prog 229 #[.pointer (some ⟨be, 0, none⟩)] w (PzQ (roomP x.flds.length 64 l (addF x (mapP l.tail))) (Kd b be B w) (MgK w b g cur be B deep)) := by
  obtain ⟨R, hR⟩ : ∃ R, R = roomP x.flds.length 64 l (addF x (mapP l.tail)) := ⟨_, rfl⟩
  rw [← hR]
  unfold roomP addF mapP at hR
  have HR := Lib.hid hR
  have H := Lib.hid h
  have HM := Lib.hid (roomFF_any h)
  clear h hR
  go_enter Tryz.func229, Tryz.ntmps229
  go_wp2_with fail
  refine HM.out.mono ?_
  rintro e w1 ⟨h1, hk1⟩
  have HK1 := Lib.hid hk1
  have HE1 := Lib.hid (H.out.kn hk1)
  clear hk1 HM
  rcases h1 with ⟨hge, rfl⟩ | ⟨hlt4, rfl⟩
  · have HR2 := Lib.hid (show R = .no (hdW l).p 5 by rw [HR.out, if_pos hge])
    clear hge HR
    unfold Stp stopV
    go_wp2_with fail
    rw [HR2.out]
    exact ⟨rfl, rfl, Kn.kd HK1.out⟩
  · have hR2 := HR.out
    rw [if_neg hlt4] at hR2
    have hal : x.flds.length ≤ 1000000 := by omega
    have HR2 := Lib.hid hR2
    clear HR hR2 hlt4
    have HO := Lib.hid (pass_any HE1.out.ps hk0)
    obtain ⟨d0, hlt1⟩ := HE1.out.ptr
    go_wp2_with fail
    refine HO.out.mono ?_
    rintro e w2 ⟨rfl, hp, hk⟩
    have HV2 := Lib.hid (show Mr w (w2.alloc (.cells #[.string ⟨#[]⟩, .string ⟨#[]⟩, .string ⟨#[]⟩, .string ⟨#[]⟩, .int .i64 4, .int .i64 0, .int .i64 (-1), .int .i64 0, .int .i64 0, .int .i64 0] 97)) b g cur be B deep x V C l.tail w2.heap.size 97 #[.string ⟨#[]⟩, .string ⟨#[]⟩, .string ⟨#[]⟩, .string ⟨#[]⟩, .int .i64 4, .int .i64 0, .int .i64 (-1), .int .i64 0, .int .i64 0, .int .i64 0] from
      ⟨(HE1.out.next hp hk).alloc _, ((Kn.kb HK1.out b).trans hk).alloc _, Blk.new w2 97 _, (HE1.out.next hp hk).blk.lt, fun i hi => ((HE1.out.next hp hk).rows.all_lt i hi).2, ((Kn.kb HK1.out b).trans hk).size⟩)
    clear d0
    obtain ⟨d0, hlt3⟩ := (HE1.out.next hp hk).ptr
    clear HO hp hk HE1 HK1
    unfold wV
    go_wp2_with fail
    have HX := Lib.hid (exp_at [kLt] #[.string kLt] 1 rfl rfl (by decide) (by decide) HV2.out.es.ps)
    rw [World.size_alloc] at HX
    generalize w2.heap.size = q at *
    refine HX.out.mono ?_
    intro e w3 hq
    clear d0
    cases hr : expP [kLt] l.tail with
    | no p c =>
      rw [hr] at hq
      obtain ⟨rfl, hk⟩ := hq
      have HKn := Lib.hid (HV2.out.kp.trans hk)
      have HRn := Lib.hid (show R = .no p c by rw [HR2.out, hr]; first | rfl | skip)
      clear hk hr HR2 HX
      unfold Stp stopV
      go_wp2_with fail
      rw [HRn.out]
      exact ⟨rfl, rfl, Kp.kd HKn.out⟩
    | ok u l3 =>
      rw [hr] at hq
      obtain ⟨v, rfl, rfl, hp, hk⟩ := hq
      have hR3 := HR2.out
      rw [hr] at hR3
      try simp only [Pz.and] at hR3
      have HR3 := Lib.hid hR3
      have HV3 := Lib.hid (HV2.out.next hp hk)
      clear hk hr HR2 HX hp hR3 HV2
      obtain ⟨d0, hlt4⟩ := HV3.out.es.ptr
      go_wp2_with fail
      have HX := Lib.hid (name_any HV3.out.es.ps)
      refine HX.out.mono ?_
      intro e w4 hq
      clear d0
      cases hr : nameP l3 with
      | no p c =>
        rw [hr] at hq
        obtain ⟨rfl, hk⟩ := hq
        have HKn := Lib.hid (HV3.out.kp.trans hk)
        have HRn := Lib.hid (show R = .no p c by rw [HR3.out, hr]; first | rfl | skip)
        clear hk hr HR3 HX
        unfold Stp stopV
        go_wp2_with fail
        rw [HRn.out]
        exact ⟨rfl, rfl, Kp.kd HKn.out⟩
      | ok s4 l4 =>
        rw [hr] at hq
        obtain ⟨v, rfl, rfl, hp, hk⟩ := hq
        have hR4 := HR3.out
        rw [hr] at hR4
        simp only [Pz.and] at hR4
        have HR4 := Lib.hid hR4
        have HV4' := Lib.hid (HV3.out.next hp hk)
        obtain ⟨d0, hltb4⟩ := HV4'.out.es.ptr
        obtain ⟨⟨m0, m1, m2, m3, m4, m5, m6, m7, m8, m9⟩, f0, f1, f2, f3, f5, f7, f8, f9⟩ := HV4'.out.bl.ten_
        have hqb4 : be ≠ q := by have := HV4'.out.qb; omega
        have HV4 := Lib.hid (show Mr w (World.setCell (World.setCell w4 ⟨q, 2, none⟩ (.string s4)) ⟨q, 8, none⟩ (.int .i64 (hdW l3).p)) b g cur be B deep x V C l4 q 97 #[.string ⟨#[]⟩, .string ⟨#[]⟩, .string s4, .string ⟨#[]⟩, .int .i64 4, .int .i64 0, .int .i64 (-1), .int .i64 0, .int .i64 (hdW l3).p, .int .i64 0] from ((HV4'.out.set 2 (.string s4)).set 8 (.int .i64 (hdW l3).p)))
        clear hk hr HR3 HX hp hR4 HV3 HV4'
        have hsz : (World.setCell (World.setCell w4 ⟨q, 2, none⟩ (.string s4)) ⟨q, 8, none⟩ (.int .i64 (hdW l3).p)).heap.size = w4.heap.size := by simp
        obtain ⟨d0, hlt5⟩ := HV4.out.es.ptr
        go_wp2_with fail
        have HX := Lib.hid (exp_at [kComma] #[.string kComma] 1 rfl rfl (by decide) (by decide) HV4.out.es.ps)
        rw [hsz] at HX
        refine HX.out.mono ?_
        intro e w5 hq
        clear d0
        cases hr : expP [kComma] l4 with
        | no p c =>
          rw [hr] at hq
          obtain ⟨rfl, hk⟩ := hq
          have HKn := Lib.hid (HV4.out.kp.trans hk)
          have HRn := Lib.hid (show R = .no p c by rw [HR4.out, hr]; first | rfl | skip)
          clear hk hr HR4 HX
          unfold Stp stopV
          go_wp2_with fail
          rw [HRn.out]
          exact ⟨rfl, rfl, Kp.kd HKn.out⟩
        | ok u l5 =>
          rw [hr] at hq
          obtain ⟨v, rfl, rfl, hp, hk⟩ := hq
          have hR5 := HR4.out
          rw [hr] at hR5
          try simp only [Pz.and] at hR5
          have HR5 := Lib.hid hR5
          have HV5 := Lib.hid (HV4.out.next hp hk)
          clear hk hr HR4 HX hp hR5 HV4
          clear d0 m0 m1 m2 m3 m4 m5 m6 m7 m8 m9 f0 f1 f2 f3 f5 f7 f8 f9 hsz
          obtain ⟨d0, hlt6⟩ := HV5.out.es.ptr
          go_wp2_with fail
          have HX := Lib.hid (name_any HV5.out.es.ps)
          refine HX.out.mono ?_
          intro e w6 hq
          clear d0
          cases hr : nameP l5 with
          | no p c =>
            rw [hr] at hq
            obtain ⟨rfl, hk⟩ := hq
            have HKn := Lib.hid (HV5.out.kp.trans hk)
            have HRn := Lib.hid (show R = .no p c by rw [HR5.out, hr]; first | rfl | skip)
            clear hk hr HR5 HX
            unfold Stp stopV
            go_wp2_with fail
            rw [HRn.out]
            exact ⟨rfl, rfl, Kp.kd HKn.out⟩
          | ok s6 l6 =>
            rw [hr] at hq
            obtain ⟨v, rfl, rfl, hp, hk⟩ := hq
            have hR6 := HR5.out
            rw [hr] at hR6
            simp only [Pz.and] at hR6
            have HR6 := Lib.hid hR6
            have HV6' := Lib.hid (HV5.out.next hp hk)
            obtain ⟨d0, hltb6⟩ := HV6'.out.es.ptr
            obtain ⟨⟨m0, m1, m2, m3, m4, m5, m6, m7, m8, m9⟩, f0, f1, f2, f3, f5, f7, f8, f9⟩ := HV6'.out.bl.ten_
            have hqb6 : be ≠ q := by have := HV6'.out.qb; omega
            have HV6 := Lib.hid (show Mr w (World.setCell w6 ⟨q, 1, none⟩ (.string s6)) b g cur be B deep x V C l6 q 97 #[.string ⟨#[]⟩, .string s6, .string s4, .string ⟨#[]⟩, .int .i64 4, .int .i64 0, .int .i64 (-1), .int .i64 0, .int .i64 (hdW l3).p, .int .i64 0] from (HV6'.out.set 1 (.string s6)))
            clear hk hr HR5 HX hp hR6 HV5 HV6'
            have hsz : (World.setCell w6 ⟨q, 1, none⟩ (.string s6)).heap.size = w6.heap.size := by simp
            obtain ⟨d0, hlt7⟩ := HV6.out.es.ptr
            go_wp2_with fail
            have HX := Lib.hid (exp_at [kGt] #[.string kGt] 1 rfl rfl (by decide) (by decide) HV6.out.es.ps)
            rw [hsz] at HX
            refine HX.out.mono ?_
            intro e w7 hq
            clear d0
            cases hr : expP [kGt] l6 with
            | no p c =>
              rw [hr] at hq
              obtain ⟨rfl, hk⟩ := hq
              have HKn := Lib.hid (HV6.out.kp.trans hk)
              have HRn := Lib.hid (show R = .no p c by rw [HR6.out, hr]; first | rfl | skip)
              clear hk hr HR6 HX
              unfold Stp stopV
              go_wp2_with fail
              rw [HRn.out]
              exact ⟨rfl, rfl, Kp.kd HKn.out⟩
            | ok u l7 =>
              rw [hr] at hq
              obtain ⟨v, rfl, rfl, hp, hk⟩ := hq
              have hR7 := HR6.out
              rw [hr] at hR7
              try simp only [Pz.and] at hR7
              have HR7 := Lib.hid hR7
              have HV7 := Lib.hid (HV6.out.next hp hk)
              clear hk hr HR6 HX hp hR7 HV6
              clear d0 m0 m1 m2 m3 m4 m5 m6 m7 m8 m9 f0 f1 f2 f3 f5 f7 f8 f9 hsz
              have HC := Lib.hid (named_any HV7.out.es ⟨kNone, s6, s4, kNone, 4, 0, -1, 0, (hdW l3).p, 0⟩ hal)
              have HQ := Lib.hid (show R = addF x (namedP ⟨kNone, s6, s4, kNone, 4, 0, -1, 0, (hdW l3).p, 0⟩ l7) by rw [HR7.out]; first | rfl | skip)
              rw [← HQ.out] at HC
              have HK7 := Lib.hid HV7.out.kp
              obtain ⟨⟨m0, m1, m2, m3, m4, m5, m6, m7, m8, m9⟩, f0, f1, f2, f3, f5, f7, f8, f9⟩ := HV7.out.bl.ten_
              clear HR7 HV7 HQ
              go_wp2_with fail
              refine HC.out.mono ?_
              intro e w9 hq
              clear m0 m1 m2 m3 m4 m5 m6 m7 m8 m9 f0 f1 f2 f3 f5 f7 f8 f9 HC
              cases R with
              | no p c =>
                obtain ⟨rfl, hk⟩ := hq
                have HKn := Lib.hid ((Kp.kd HK7.out : Kd b be B w _).trans hk)
                clear hk HK7
                unfold Stp stopV
                go_wp2_with fail
                exact ⟨rfl, rfl, HKn.out⟩
              | ok x' l' =>
                obtain ⟨v, rfl, rfl, hE, hk⟩ := hq
                have HKn := Lib.hid ((Kp.kd HK7.out : Kd b be B w _).trans hk)
                have HE := Lib.hid hE
                clear hk hE HK7
                go_wp2_with fail
                go_end0
                exact ⟨_, rfl, rfl, HE.out, HKn.out⟩
end
end
section
open Go.RowKit
set_option linter.unusedVariables false
set_option linter.unusedSimpArgs false

section
variable {w : World} {b g : Nat} {cur : Array Value} {l : List Wd}
set_option maxRecDepth 100000 in
set_option maxHeartbeats 1000000 in
theorem msReserved_any (hX : Ext) {be B deep : Nat} {x : Ms} {vf vo vm ve v2 v3 : Value} {C : List Nat} (h : Mg w b g cur be B deep x ⟨vf, vo, vm, ve, v2, v3⟩ C l) (hk : (hdW l).k ≠ 0) :
    Calls Tryz.prog 226 #[.pointer (some ⟨be, 0, none⟩)] w (PzQ ((resP 536870911 false x.rngs x.nams l).and fun r l => .ok { x with rngs := r.1, nams := r.2 } l) (Kd b be B w) (MgK w b g cur be B deep)) := by
  obtain ⟨R, hR⟩ : ∃ R, R = (resP 536870911 false x.rngs x.nams l).and fun r l => .ok { x with rngs := r.1, nams := r.2 } l := ⟨_, rfl⟩
  rw [← hR]
  have HR := Lib.hid hR
  have H := Lib.hid h
  obtain ⟨A2, c2, hv2, -, -⟩ := h.rows.val (j := 4) rfl
  obtain ⟨A3, c3, hv3, -, -⟩ := h.rows.val (j := 5) rfl
  simp only at hv2 hv3
  subst hv2 hv3
  obtain ⟨d0, hlt⟩ := h.ptr
  have d4 : w.cell? ⟨be, 7, none⟩ = some (.slice A2 x.rngs.length c2) := h.blk.cell 7
  have d5 : w.cell? ⟨be, 8, none⟩ = some (.slice A3 x.nams.length c3) := h.blk.cell 8
  have y4 : w.frozen? ⟨be, 7, none⟩ = false := h.blk.frozen 7
  have y5 : w.frozen? ⟨be, 8, none⟩ = false := h.blk.frozen 8
  clear h hR
  go_enter Tryz.func226, Tryz.ntmps226
  go_wp2_with fail
  have HC := Lib.hid (show Calls Tryz.prog 232 #[.pointer (some ⟨b, 0, none⟩), .slice A2 x.rngs.length c2, .slice A3 x.nams.length c3, .agg #[.int .i64 536870911, .bool false]] w.drew (fun e w' =>
      (∃ (r : List Sp × List Tx) (l' : List Wd) (A5 A6 : Option Addr) (c5 c6 : Nat), resP 536870911 false x.rngs x.nams l = .ok r l' ∧ e = .returned (.tuple #[.slice A5 r.1.length c5, .slice A6 r.2.length c6]) ∧ Rows_ w' B [rwFd x.flds vf, rwTx x.onos vo, rwMs x.msgs vm, rwEn x.enums ve, rwSp r.1 (.slice A5 r.1.length c5), rwTx r.2 (.slice A6 r.2.length c6)] C ∧ Ps w' b g cur l' ∧ Kc b B w w') ∨
      (∃ p c, resP 536870911 false x.rngs x.nams l = .no p c ∧ e = Stp p c ∧ Kc b B w w')) from
    (reserve_any hX H.out.drew.ps hk 536870911 false B 4 5 (by decide) _ C x.rngs x.nams _ _ H.out.drew.rows rfl rfl H.out.sz (by have := H.out.lb; have := H.out.lB; omega) (by have := H.out.lg; have := H.out.lB; omega)).mono fun e w' h' => by
      cases hr : resP 536870911 false x.rngs x.nams l with
      | no p c =>
        rw [hr] at h'
        exact .inr ⟨p, c, rfl, h'.1, (Kp.refl _ w).drew.trans h'.2⟩
      | ok r l' =>
        rw [hr] at h'
        obtain ⟨v, rfl, u2, u3, rfl, h1, h2, h3⟩ := h'
        obtain ⟨A5, c5, e5, -, -⟩ := h1.val (j := 4) rfl
        obtain ⟨A6, c6, e6, -, -⟩ := h1.val (j := 5) rfl
        simp only at e5 e6
        subst e5 e6
        exact .inl ⟨r, l', A5, A6, c5, c6, rfl, rfl, h1, h2, (Kp.refl _ w).drew.trans h3⟩)
  have HPO := Lib.hid fun (w4 : World) (p c : Nat) (hr : resP 536870911 false x.rngs x.nams l = .no p c) (hk : Kc b B w w4) => (show PzQ R (Kd b be B w) (MgK w b g cur be B deep) (Stp p c) w4 by
    rw [HR.out, hr]; exact ⟨rfl, Kc.kd hk⟩)
  go_wp2_with fail
  go_region_law ((go_simp; go_at_call 232; refine HC.out.mono ?_; rintro e w4 (⟨r, l', A5, A6, c5, c6, hn, rfl, hrw, hps, hkc⟩ | ⟨p, c, hn, rfl, hkc⟩); rotate_left 1; exact ⟨rfl, HPO.out w4 p c hn hkc⟩; have HRW := Lib.hid hrw; have HPS := Lib.hid hps; have HKC := Lib.hid hkc; have HN := Lib.hid hn; have HBK := Lib.hid (H.out.blk.kp hkc (by have := H.out.lb; have := H.out.lB; omega)); have q0 : w4.cell? ⟨be, 0, none⟩ = some (.pointer (some ⟨b, 0, none⟩)) := HBK.out.cell 0; have q4 : w4.cell? ⟨be, 7, none⟩ = some (.slice A2 x.rngs.length c2) := HBK.out.cell 7; have q5 : w4.cell? ⟨be, 8, none⟩ = some (.slice A3 x.nams.length c3) := HBK.out.cell 8; have f4 := HBK.out.frozen 7; have f5 := HBK.out.frozen 8; clear hn hrw hps hkc))
  all_goals
    rw [HR.out, HN.out]
    go_end0
    have hne : be ≠ b := by have := H.out.lb; omega
    have hng : be ≠ g := by have := H.out.lg; omega
    refine ⟨_, rfl, rfl, ⟨⟨vf, vo, vm, ve, .slice A5 r.1.length c5, .slice A6 r.2.length c6⟩, C, (HPS.out.far hne hng _).far hne hng _, ?_, (HRW.out.setCell H.out.lB _).setCell H.out.lB _, H.out.lb, H.out.lg, H.out.lB, by simpa using Nat.le_trans H.out.sz HKC.out.size⟩, ?_⟩
    · exact (HBK.out.set_ 7 _).set_ 8 _
    · exact ((Kc.kd HKC.out : Kd b be B w w4).setCell (fun _ => .inr (.inl rfl)) _).setCell (fun _ => .inr (.inl rfl)) _
end
end
end Go.Proofs.YthmdaejlopjjoaaGreatDoor
