/-
  tree: an enum.
-/
import Derived.Test.YthmdaejlopjjoaaGreatDoorTrP17
import Derived.Test.YthmdaejlopjjoaaGreatDoorTrP14
import Derived.Test.YthmdaejlopjjoaaGreatDoorInsA
namespace Go.Proofs.YthmdaejlopjjoaaGreatDoor
open Go.RowKit
set_option linter.unusedVariables false
set_option linter.unusedSimpArgs false

/-- The types' numbers. -/
def Ty0 : Ty := ⟨37, 99, 126, 97, 55, 91, 52, 86, 49⟩
theorem Blk.five_ {w : World} {q : Nat} {t : TypeId} {a1 a2 a3 a4 a5 : Value} (h : Blk w q t #[a1, a2, a3, a4, a5]) : (w.cell? ⟨q, 0, none⟩ = some a1 ∧ w.cell? ⟨q, 1, none⟩ = some a2 ∧ w.cell? ⟨q, 2, none⟩ = some a3 ∧ w.cell? ⟨q, 3, none⟩ = some a4 ∧ w.cell? ⟨q, 4, none⟩ = some a5) ∧
    w.frozen? ⟨q, 0, none⟩ = false ∧ w.frozen? ⟨q, 1, none⟩ = false ∧ w.frozen? ⟨q, 2, none⟩ = false ∧ w.frozen? ⟨q, 3, none⟩ = false ∧ w.frozen? ⟨q, 4, none⟩ = false :=
  ⟨⟨h.cell 0, h.cell 1, h.cell 2, h.cell 3, h.cell 4⟩, h.frozen 0, h.frozen 1, h.frozen 2, h.frozen 3, h.frozen 4⟩
theorem Blk.put5 {w : World} {q : Nat} {t : TypeId} {a1 a2 a3 a4 a5 : Value} (h : Blk w q t #[a1, a2, a3, a4, a5]) (u1 u2 u3 u4 u5 : Value) : Blk (((((w.setCell ⟨q, 0, none⟩ u1).setCell ⟨q, 1, none⟩ u2).setCell ⟨q, 2, none⟩ u3).setCell ⟨q, 3, none⟩ u4).setCell ⟨q, 4, none⟩ u5) q t #[u1, u2, u3, u4, u5] :=
  ((((h.set_ 0 u1).set_ 1 u2).set_ 2 u3).set_ 3 u4).set_ 4 u5
theorem Kp.put5 {S : Nat → Prop} {a w : World} (h : Kp S a w) {q : Nat} (hq : q < a.heap.size → S q) (u1 u2 u3 u4 u5 : Value) : Kp S a (((((w.setCell ⟨q, 0, none⟩ u1).setCell ⟨q, 1, none⟩ u2).setCell ⟨q, 2, none⟩ u3).setCell ⟨q, 3, none⟩ u4).setCell ⟨q, 4, none⟩ u5) :=
  ((((h.setCell hq u1).setCell hq u2).setCell hq u3).setCell hq u4).setCell hq u5
section
variable {w : World} {b g : Nat} {cur : Array Value} {l : List Wd}
/-- A value in new memory. -/
def MdK {α : Type} (dv : α → List Dv) (w : World) (b g : Nat) (cur : Array Value) : α → List Wd → Value → World → Prop :=
  fun x l' v w' => ∃ vs F, v = .agg vs ∧ MemL w' w.heap.size (dv x) vs.toList F ∧ Ps w' b g cur l' ∧ Kb b w w'
set_option maxRecDepth 100000 in
set_option maxHeartbeats 4000000 in
theorem readEnum_any (hX : Ext) (h : Ps w b g cur l) (hk0 : (hdW l).k ≠ 0) : Calls Tryz.prog 179 #[.pointer (some ⟨b, 0, none⟩)] w (PzQ (enP l) (Kb b w) (MdK (En.dv Ty0) w b g cur)) := by
  obtain ⟨R, hR⟩ : ∃ R, R = enP l := ⟨_, rfl⟩
  rw [← hR]
  unfold enP at hR
  have HR := Lib.hid hR
  have H := Lib.hid h
  have HP := Lib.hid fun (W : World) (k : Kn w W) => pass_any (h.kn k) hk0
  clear h hR
  go_enter Tryz.func179, Tryz.ntmps179
  go_wp2_with fail
  refine (HP.out _ ((Kp.refl _ w).alloc _)).mono ?_
  rintro e w1 ⟨rfl, hp1, hk1⟩
  have hbw := H.out.lt
  have HP1 := Lib.hid hp1
  have HB1 := Lib.hid (Blk.kp (Blk.new w 52 #[.string ⟨#[]⟩, .int .i64 0, .slice none 0 0, .slice none 0 0, .slice none 0 0]) hk1 (by omega))
  have HK1 := Lib.hid (show Kb b w w1 from ((Kp.refl _ w).alloc _).trans hk1)
  have HO := Lib.hid (of_any hp1 1 (by decide))
  clear hp1 hk1 HP
  unfold wV
  go_wp2_with fail
  refine HO.out.mono ?_
  intro e w2 hq
  cases hr : ofP 1 l.tail with
  | no p c =>
    rw [hr] at hq
    obtain ⟨rfl, hk⟩ := hq
    have HK2 := Lib.hid (HK1.out.trans hk)
    have HR2 := Lib.hid (show R = .no p c by rw [HR.out, hr]; rfl)
    clear hk hr HR HO
    unfold Stp stopV
    go_wp2_with fail
    rw [HR2.out]
    exact ⟨rfl, rfl, HK2.out⟩
  | ok y l2 =>
    rw [hr] at hq
    obtain ⟨v, rfl, rfl, rfl, rfl, hp, hk⟩ := hq
    have hR2 := HR.out
    rw [hr] at hR2
    simp only [Pz.and] at hR2
    have HR2 := Lib.hid hR2
    have HP2 := Lib.hid hp
    have HK2 := Lib.hid (HK1.out.trans hk)
    have HB2 := Lib.hid (HB1.out.kp hk (by omega))
    have hb2l := HB2.out.lt
    generalize hdW l.tail = y at *
    clear hk hr HR HO hp hR2 HP1 HB1 HK1
    unfold wV
    go_wp2_with fail
    have HE3 := Lib.hid (show Es ((w2.alloc (.cells #[.int .i64 y.k, .int .i64 y.p, .string y.t, .int .i64 y.n] 73)).alloc (.cells #[.pointer (some ⟨b, 0, none⟩), .string y.t, .int .i64 y.p, .slice none 0 0, .slice none 0 0, .slice none 0 0] 239)) b g cur (w2.heap.size + 1) (w2.heap.size + 2) ⟨y.t, y.p, [], [], []⟩ (.slice none 0 0) (.slice none 0 0) (.slice none 0 0) [] l.tail.tail from
      ⟨(HP2.out.alloc _).alloc _, by have := Blk.new (w2.alloc (.cells #[.int .i64 y.k, .int .i64 y.p, .string y.t, .int .i64 y.n] 73)) 239 #[.pointer (some ⟨b, 0, none⟩), .string y.t, .int .i64 y.p, .slice none 0 0, .slice none 0 0, .slice none 0 0]; rwa [World.size_alloc] at this,
       Rows_.nils _ _ [(55, 3), (126, 3), (99, 2)], by have := HP2.out.lt; omega, by have := HP2.out.gb.lt; omega, by omega, by simp⟩)
    have HK3 := Lib.hid ((HK2.out.alloc (.cells #[.int .i64 y.k, .int .i64 y.p, .string y.t, .int .i64 y.n] 73)).alloc (.cells #[.pointer (some ⟨b, 0, none⟩), .string y.t, .int .i64 y.p, .slice none 0 0, .slice none 0 0, .slice none 0 0] 239))
    have HB3 := Lib.hid ((HB2.out.alloc (.cells #[.int .i64 y.k, .int .i64 y.p, .string y.t, .int .i64 y.n] 73)).alloc (.cells #[.pointer (some ⟨b, 0, none⟩), .string y.t, .int .i64 y.p, .slice none 0 0, .slice none 0 0, .slice none 0 0] 239))
    have hbe0 : w.heap.size < w2.heap.size + 1 := by omega
    generalize World.alloc (World.alloc w2 _) _ = wz at *
    generalize w2.heap.size + 1 = be at *
    have hS0 : (fun W : World => W.cell? ⟨be, 0, none⟩ = some (.pointer (some ⟨b, 0, none⟩))) { wz with drawn := wz.drawn + 1 } := HE3.out.blk.cell 0
    have hS1 : (fun W : World => W.cell? ⟨be, 0, none⟩ = some (.pointer (some ⟨b, 0, none⟩))) (World.alloc { wz with drawn := wz.drawn + 1 } (.map #[] 0)) := ((HE3.out.drew).alloc (.map #[] 0)).blk.cell 0
    have hbez : be < wz.heap.size := HE3.out.blk.lt
    have hSk : ∀ W W' : World, W.grownBy W' (some ({ wz with drawn := wz.drawn + 1 } : World).heap.size) → (fun W : World => W.cell? ⟨be, 0, none⟩ = some (.pointer (some ⟨b, 0, none⟩))) W → (fun W : World => W.cell? ⟨be, 0, none⟩ = some (.pointer (some ⟨b, 0, none⟩))) W' :=
      fun W W' hg hw => World.grownBy.cell hg hw (by intro e; injection e with e; have : be = wz.heap.size := e; omega)
    clear HB2 HK2 HP2
    refine wp_region_held (S := fun W => W.cell? ⟨be, 0, none⟩ = some (.pointer (some ⟨b, 0, none⟩))) (by kernel_rfl) ?_
    refine wpAnyH_take (i := 0) (oi := { dst := some 17, op := Op.move (Operand.tmp 4), type := 237, pos := "enum.go:25", after := #[], guard := none }) (v := .pointer (some ⟨be, 0, none⟩)) rfl (by kernel_rfl) (by kernel_rfl) (by kernel_rfl) (fun _ _ _ h => h) (.inl ⟨rfl, fun _ _ => rfl⟩) hS0 ?_
    simp only [Act.put, List.setIfInBounds_toArray, List.set_cons_zero, List.set_cons_succ]
    refine wpAnyH_take (i := 1) (oi := { dst := some 18, op := Op.nilCheck (Operand.tmp 17), type := 0, pos := "enum.go:25", after := #[{ on := 0, ground := Ground.data }], guard := none }) (v := .pointer (some ⟨be, 0, none⟩)) rfl (by kernel_rfl) (by kernel_rfl) (by kernel_rfl) (fun _ _ _ h => h) (.inl ⟨rfl, fun _ _ => rfl⟩) hS0 ?_
    simp only [Act.put, List.setIfInBounds_toArray, List.set_cons_zero, List.set_cons_succ]
    refine wpAnyH_take (i := 2) (oi := { dst := some 19, op := Op.fieldAddr 239 (Operand.tmp 18) 0, type := 0, pos := "enum.go:25", after := #[{ on := 1, ground := Ground.data }], guard := none }) (v := .pointer (some ⟨be, 0, none⟩)) rfl (by kernel_rfl) (by kernel_rfl) (by kernel_rfl) (fun _ _ _ h => h) (.inl ⟨rfl, fun _ _ => by go_simp⟩) hS0 ?_
    simp only [Act.put, List.setIfInBounds_toArray, List.set_cons_zero, List.set_cons_succ]
    refine wpAnyH_take (i := 3) (oi := { dst := some 20, op := Op.load 104 (Operand.tmp 19), type := 104, pos := "enum.go:25", after := #[{ on := 2, ground := Ground.data }], guard := none }) (v := .pointer (some ⟨b, 0, none⟩)) rfl (by kernel_rfl) (by kernel_rfl) (by kernel_rfl) (fun _ _ _ h => h) (.inl ⟨rfl, fun W hW => by have hW2 : W.cell? ⟨be, 0, none⟩ = some (.pointer (some ⟨b, 0, none⟩)) := hW; simp [execOp, go_sem, Act.eval, hW2]⟩) hS0 ?_
    simp only [Act.put, List.setIfInBounds_toArray, List.set_cons_zero, List.set_cons_succ]
    refine wpAnyH_take (i := 5) (oi := { dst := some 22, op := Op.move (Operand.tmp 4), type := 237, pos := "enum.go:25", after := #[], guard := none }) (v := .pointer (some ⟨be, 0, none⟩)) rfl (by kernel_rfl) (by kernel_rfl) (by kernel_rfl) (fun _ _ _ h => h) (.inl ⟨rfl, fun _ _ => rfl⟩) hS0 ?_
    simp only [Act.put, List.setIfInBounds_toArray, List.set_cons_zero, List.set_cons_succ]
    refine wpAnyH_take (i := 6) (oi := { dst := some 23, op := Op.nilCheck (Operand.tmp 22), type := 0, pos := "enum.go:25", after := #[{ on := 5, ground := Ground.data }], guard := none }) (v := .pointer (some ⟨be, 0, none⟩)) rfl (by kernel_rfl) (by kernel_rfl) (by kernel_rfl) (fun _ _ _ h => h) (.inl ⟨rfl, fun _ _ => rfl⟩) hS0 ?_
    simp only [Act.put, List.setIfInBounds_toArray, List.set_cons_zero, List.set_cons_succ]
    refine wpAnyH_take (i := 7) (oi := { dst := some 24, op := Op.fieldAddr 239 (Operand.tmp 23) 0, type := 0, pos := "enum.go:25", after := #[{ on := 6, ground := Ground.data }], guard := none }) (v := .pointer (some ⟨be, 0, none⟩)) rfl (by kernel_rfl) (by kernel_rfl) (by kernel_rfl) (fun _ _ _ h => h) (.inl ⟨rfl, fun _ _ => by go_simp⟩) hS0 ?_
    simp only [Act.put, List.setIfInBounds_toArray, List.set_cons_zero, List.set_cons_succ]
    refine wpAnyH_take (i := 8) (oi := { dst := some 25, op := Op.load 104 (Operand.tmp 24), type := 104, pos := "enum.go:25", after := #[{ on := 7, ground := Ground.data }], guard := none }) (v := .pointer (some ⟨b, 0, none⟩)) rfl (by kernel_rfl) (by kernel_rfl) (by kernel_rfl) (fun _ _ _ h => h) (.inl ⟨rfl, fun W hW => by have hW2 : W.cell? ⟨be, 0, none⟩ = some (.pointer (some ⟨b, 0, none⟩)) := hW; simp [execOp, go_sem, Act.eval, hW2]⟩) hS0 ?_
    simp only [Act.put, List.setIfInBounds_toArray, List.set_cons_zero, List.set_cons_succ]
    refine wpAnyH_take (i := 9) (oi := { dst := some 26, op := Op.makeFunc (Fn.func 147) #[Operand.tmp 25] #[], type := 1, pos := "enum.go:25", after := #[{ on := 8, ground := Ground.data }], guard := none }) (v := .func (.func 147) #[.pointer (some ⟨b, 0, none⟩)] #[]) rfl (by kernel_rfl) (by kernel_rfl) (by kernel_rfl) (fun _ _ _ h => h) (.inl ⟨rfl, fun _ _ => by go_simp⟩) hS0 ?_
    simp only [Act.put, List.setIfInBounds_toArray, List.set_cons_zero, List.set_cons_succ]
    refine wpAnyH_take (i := 11) (oi := { dst := some 27, op := Op.move (Operand.tmp 4), type := 237, pos := "enum.go:25", after := #[], guard := none }) (v := .pointer (some ⟨be, 0, none⟩)) rfl (by kernel_rfl) (by kernel_rfl) (by kernel_rfl) (fun _ _ _ h => h) (.inl ⟨rfl, fun _ _ => rfl⟩) hS0 ?_
    simp only [Act.put, List.setIfInBounds_toArray, List.set_cons_zero, List.set_cons_succ]
    refine wpAnyH_take (i := 12) (oi := { dst := some 28, op := Op.makeFunc (Fn.func 203) #[Operand.tmp 27] #[], type := 1, pos := "enum.go:25", after := #[{ on := 11, ground := Ground.data }], guard := none }) (v := .func (.func 203) #[.pointer (some ⟨be, 0, none⟩)] #[]) rfl (by kernel_rfl) (by kernel_rfl) (by kernel_rfl) (fun _ _ _ h => h) (.inl ⟨rfl, fun _ _ => by go_simp⟩) hS0 ?_
    simp only [Act.put, List.setIfInBounds_toArray, List.set_cons_zero, List.set_cons_succ]
    refine wpAnyH_take (i := 14) (oi := { dst := some 29, op := Op.move (Operand.tmp 4), type := 237, pos := "enum.go:25", after := #[], guard := none }) (v := .pointer (some ⟨be, 0, none⟩)) rfl (by kernel_rfl) (by kernel_rfl) (by kernel_rfl) (fun _ _ _ h => h) (.inl ⟨rfl, fun _ _ => rfl⟩) hS0 ?_
    simp only [Act.put, List.setIfInBounds_toArray, List.set_cons_zero, List.set_cons_succ]
    refine wpAnyH_take (i := 15) (oi := { dst := some 30, op := Op.nilCheck (Operand.tmp 29), type := 0, pos := "enum.go:25", after := #[{ on := 14, ground := Ground.data }], guard := none }) (v := .pointer (some ⟨be, 0, none⟩)) rfl (by kernel_rfl) (by kernel_rfl) (by kernel_rfl) (fun _ _ _ h => h) (.inl ⟨rfl, fun _ _ => rfl⟩) hS0 ?_
    simp only [Act.put, List.setIfInBounds_toArray, List.set_cons_zero, List.set_cons_succ]
    refine wpAnyH_take (i := 16) (oi := { dst := some 31, op := Op.fieldAddr 239 (Operand.tmp 30) 0, type := 0, pos := "enum.go:25", after := #[{ on := 15, ground := Ground.data }], guard := none }) (v := .pointer (some ⟨be, 0, none⟩)) rfl (by kernel_rfl) (by kernel_rfl) (by kernel_rfl) (fun _ _ _ h => h) (.inl ⟨rfl, fun _ _ => by go_simp⟩) hS0 ?_
    simp only [Act.put, List.setIfInBounds_toArray, List.set_cons_zero, List.set_cons_succ]
    refine wpAnyH_take (i := 17) (oi := { dst := some 32, op := Op.load 104 (Operand.tmp 31), type := 104, pos := "enum.go:25", after := #[{ on := 16, ground := Ground.data }], guard := none }) (v := .pointer (some ⟨b, 0, none⟩)) rfl (by kernel_rfl) (by kernel_rfl) (by kernel_rfl) (fun _ _ _ h => h) (.inl ⟨rfl, fun W hW => by have hW2 : W.cell? ⟨be, 0, none⟩ = some (.pointer (some ⟨b, 0, none⟩)) := hW; simp [execOp, go_sem, Act.eval, hW2]⟩) hS0 ?_
    simp only [Act.put, List.setIfInBounds_toArray, List.set_cons_zero, List.set_cons_succ]
    refine wpAnyH_take (i := 18) (oi := { dst := some 33, op := Op.makeFunc (Fn.func 103) #[Operand.tmp 32] #[], type := 1, pos := "enum.go:25", after := #[{ on := 17, ground := Ground.data }], guard := none }) (v := .func (.func 103) #[.pointer (some ⟨b, 0, none⟩)] #[]) rfl (by kernel_rfl) (by kernel_rfl) (by kernel_rfl) (fun _ _ _ h => h) (.inl ⟨rfl, fun _ _ => by go_simp⟩) hS0 ?_
    simp only [Act.put, List.setIfInBounds_toArray, List.set_cons_zero, List.set_cons_succ]
    refine wpAnyH_take (i := 21) (oi := { dst := some 35, op := Op.move (Operand.tmp 4), type := 237, pos := "enum.go:25", after := #[], guard := none }) (v := .pointer (some ⟨be, 0, none⟩)) rfl (by kernel_rfl) (by kernel_rfl) (by kernel_rfl) (fun _ _ _ h => h) (.inl ⟨rfl, fun _ _ => rfl⟩) hS0 ?_
    simp only [Act.put, List.setIfInBounds_toArray, List.set_cons_zero, List.set_cons_succ]
    refine wpAnyH_take (i := 22) (oi := { dst := some 36, op := Op.makeFunc (Fn.func 204) #[Operand.tmp 35] #[], type := 1, pos := "enum.go:25", after := #[{ on := 21, ground := Ground.data }], guard := none }) (v := .func (.func 204) #[.pointer (some ⟨be, 0, none⟩)] #[]) rfl (by kernel_rfl) (by kernel_rfl) (by kernel_rfl) (fun _ _ _ h => h) (.inl ⟨rfl, fun _ _ => by go_simp⟩) hS0 ?_
    simp only [Act.put, List.setIfInBounds_toArray, List.set_cons_zero, List.set_cons_succ]
    refine wpAnyH_all (rs := [4]) (by kernel_rfl) (by simp) ?_
    intro i hi
    obtain rfl : i = 4 := by simpa using hi
    refine wpOp_makeMap Tryz.underlying158 (o := { dst := some 21, op := Op.makeMap 158 none, type := 158, pos := "enum.go:25", after := #[], guard := none }) rfl rfl rfl ?_
    intro hmap
    simp only [Act.put, List.setIfInBounds_toArray, List.set_cons_zero, List.set_cons_succ]
    refine ⟨hS1, ?_⟩
    refine wpAnyH_ins0 Tryz.underlying158 Tryz.underlying9 (ms := .tmp 21) (mb := ({ wz with drawn := wz.drawn + 1 } : World).heap.size) ?hm [10, 13, 19] (fun i => if i = 10 then kSemi else if i = 13 then kRes else kOption) (fun i => if i = 10 then .func (.func 147) #[.pointer (some ⟨b, 0, none⟩)] #[] else if i = 13 then .func (.func 203) #[.pointer (some ⟨be, 0, none⟩)] #[] else .func (.func 103) #[.pointer (some ⟨b, 0, none⟩)] #[]) (by decide) (by decide) ?hops hSk _ #[true, true, true, true, true, true, true, true, true, true, true, true, true, true, true, true, true, true, true, true, false, true, true, false] (by kernel_rfl) (by kernel_rfl) _ 2 3 rfl hmap hS1 ?hc
    case hm => rfl
    case hops =>
      intro i hi
      simp only [List.mem_cons, List.mem_nil_iff, or_false] at hi
      rcases hi with rfl | rfl | rfl <;> exact ⟨_, _, rfl, rfl, rfl, rfl, rfl⟩
    intro w5 xs hm5 hlook hg5 hS5
    refine wpAnyH_take (i := 20) (oi := { dst := some 34, op := Op.move (Operand.tmp 21), type := 158, pos := "enum.go:25", after := #[{ on := 4, ground := Ground.data }, { on := 5, ground := Ground.data }, { on := 6, ground := Ground.data }, { on := 7, ground := Ground.data }, { on := 8, ground := Ground.data }, { on := 9, ground := Ground.data }, { on := 10, ground := Ground.data }, { on := 11, ground := Ground.data }, { on := 12, ground := Ground.data }, { on := 13, ground := Ground.data }, { on := 14, ground := Ground.data }, { on := 15, ground := Ground.data }, { on := 16, ground := Ground.data }, { on := 17, ground := Ground.data }, { on := 18, ground := Ground.data }, { on := 19, ground := Ground.data }], guard := none }) (v := .map (some wz.heap.size)) rfl (by kernel_rfl) (by kernel_rfl) (by kernel_rfl) (fun _ _ _ h => h) (.inl ⟨rfl, fun _ _ => rfl⟩) hS5 ?_
    simp only [Act.put, List.setIfInBounds_toArray, List.set_cons_zero, List.set_cons_succ]
    refine wpAnyH_all (rs := [23]) (by kernel_rfl) (by simp) ?_
    intro i hi
    obtain rfl : i = 23 := by simpa using hi
    refine wpOp_of (o := { dst := some 37, op := Op.call { callee := Callee.value (Operand.func 200), args := #[Operand.tmp 20, Operand.tmp 34, Operand.tmp 36], argTypes := #[104, 158, 1] }, type := 0, pos := "enum.go:25", after := #[{ on := 3, ground := Ground.data }, { on := 20, ground := Ground.data }, { on := 22, ground := Ground.data }], guard := none }) rfl rfl ?_
    go_simp
    go_at_call 200
    have hk5 : Kp (fun k => k = wz.heap.size) wz w5 := ((Kp.refl _ wz).drew.alloc (.map #[] 0)).grown hg5 (fun k e _ => by injection e with e; exact e.symm)
    have hsz5 : wz.heap.size < w5.heap.size := by have := hg5.size; simp at this; exact this
    have hbz : b < wz.heap.size := HE3.out.ps.lt
    have hlb := HE3.out.lb
    have hlg := HE3.out.lg
    have hgz : g < wz.heap.size := HE3.out.ps.gb.lt
    have hI : EnI b g cur be w5.heap.size wz.heap.size xs w5 ⟨y.t, y.p, [], [], []⟩ l.tail.tail :=
      ⟨⟨.slice none 0 0, .slice none 0 0, .slice none 0 0, [], HE3.out.ps.kp hk5 (by omega) (by omega), HE3.out.blk.kp hk5 (by omega), Rows_.nils _ _ [(55, 3), (126, 3), (99, 2)], hlb, hlg, by omega, Nat.le_refl _⟩, hm5⟩
    have hx5 : ∀ z, lookS xs z = lookS (enKey b be) z := hlook
    have hmb5 : wz.heap.size ≠ b ∧ wz.heap.size ≠ be ∧ wz.heap.size < w5.heap.size := ⟨by omega, by omega, hsz5⟩
    have HC := Lib.hid (block_any enS (EnI b g cur be w5.heap.size wz.heap.size xs) (Kd b be w5.heap.size) (fun _ _ h => Kp.kd h) (fun _ _ _ h k => h.trans k) wz.heap.size (.func (.func 204) #[.pointer (some ⟨be, 0, none⟩)] #[])
      (fun W s l h => by obtain ⟨⟨_, _, _, _, h⟩, _⟩ := h; exact h.ps)
      (fun W W' s l l' h hp hk => by obtain ⟨⟨u1, u2, u3, C, h⟩, hm⟩ := h; exact ⟨⟨u1, u2, u3, C, h.next hp hk⟩, hm.kn hk hmb5.1⟩)
      (fun W s l h _ => enElement_any hX hx5 hmb5 h) ⟨y.t, y.p, [], [], []⟩ hI)
    have HB5 := Lib.hid (HB3.out.kp hk5 (by have := HB3.out.lt; omega))
    have HK5 := Lib.hid (HK3.out.trans' hk5 (fun i e hi => by have := HK3.out.size; omega))
    have hbe5 : w.heap.size < be := by omega
    clear hm5 hlook hg5 hS5 hk5 hI hx5 HE3 HK3 HB3 hS0 hS1 hSk hmap
    rw [← HR2.out] at HC
    refine HC.out.mono ?_
    intro e w6 hq
    cases R with
    | no p c =>
      obtain ⟨rfl, hk⟩ := hq
      have HK6 := Lib.hid (show Kb b w w6 from HK5.out.trans' hk (fun i e hi => by have := HK5.out.size; rcases e with e | e | e; exact e; omega; omega))
      exact ⟨rfl, rfl, HK6.out⟩
    | ok x' l' =>
      obtain ⟨v, rfl, rfl, ⟨⟨v1, v2, v3, C, hes⟩, hm⟩, hk⟩ := hq
      have HK6 := Lib.hid (show Kb b w w6 from HK5.out.trans' hk (fun i e hi => by have := HK5.out.size; rcases e with e | e | e; exact e; omega; omega))
      have HB6 := Lib.hid (HB5.out.kp hk (by rintro (e | e | e) <;> omega))
      have HE6 := Lib.hid hes
      have hS6 : w6.cell? ⟨be, 0, none⟩ = some (.pointer (some ⟨b, 0, none⟩)) := hes.blk.cell 0
      clear HC HK5 HB5 hes hm hk
      refine ⟨hS6, wpAnyH_done (by kernel_rfl) ?_ _⟩
      obtain ⟨A1, c1, hv1, -, -⟩ := HE6.out.rows.val (j := 0) rfl
      obtain ⟨A2, c2, hv2, -, -⟩ := HE6.out.rows.val (j := 1) rfl
      obtain ⟨A3, c3, hv3, -, -⟩ := HE6.out.rows.val (j := 2) rfl
      simp only at hv1 hv2 hv3
      subst hv1 hv2 hv3
      have e1 : w6.cell? ⟨be, 1, none⟩ = some (.string x'.name) := HE6.out.blk.cell 1
      have e2 : w6.cell? ⟨be, 2, none⟩ = some (.int .i64 x'.at_) := HE6.out.blk.cell 2
      have e3 : w6.cell? ⟨be, 3, none⟩ = some (.slice A1 x'.vals.length c1) := HE6.out.blk.cell 3
      have e4 : w6.cell? ⟨be, 4, none⟩ = some (.slice A2 x'.rngs.length c2) := HE6.out.blk.cell 4
      have e5 : w6.cell? ⟨be, 5, none⟩ = some (.slice A3 x'.nams.length c3) := HE6.out.blk.cell 5
      obtain ⟨⟨q0, q1, q2, q3, q4⟩, f0, f1, f2, f3, f4⟩ := HB6.out.five_
      have hbe6 := HE6.out.blk.lt
      clear hS6
      go_wp2_with fail
      have hne : w.heap.size ≠ b := by omega
      have hng : w.heap.size ≠ g := by have := H.out.gb.lt; omega
      have P1 := Lib.hid (HE6.out.ps.kp (Kp.put5 (S := fun k => k = w.heap.size) (Kp.refl _ w6) (fun _ => rfl) (.string x'.name) (.int .i64 x'.at_) (.slice A1 x'.vals.length c1) (.slice A2 x'.rngs.length c2) (.slice A3 x'.nams.length c3)) (by omega) (by omega))
      have K1 := Lib.hid (HK6.out.put5 (q := w.heap.size) (fun h => by omega) (.string x'.name) (.int .i64 x'.at_) (.slice A1 x'.vals.length c1) (.slice A2 x'.rngs.length c2) (.slice A3 x'.nams.length c3))
      have R1 := Lib.hid (HE6.out.rows.kp (Kp.put5 (S := fun k => k = w.heap.size) (Kp.refl _ w6) (fun _ => rfl) (.string x'.name) (.int .i64 x'.at_) (.slice A1 x'.vals.length c1) (.slice A2 x'.rngs.length c2) (.slice A3 x'.nams.length c3)) (fun i e => by omega))
      obtain ⟨⟨z0, z1, z2, z3, z4⟩, -⟩ := (HB6.out.put5 (.string x'.name) (.int .i64 x'.at_) (.slice A1 x'.vals.length c1) (.slice A2 x'.rngs.length c2) (.slice A3 x'.nams.length c3)).five_
      generalize World.setCell (World.setCell (World.setCell (World.setCell (World.setCell w6 _ _) _ _) _ _) _ _) _ _ = w7 at *
      obtain ⟨F, hm, -⟩ := R1.out.mem
      have hbs : w.heap.size ≤ w5.heap.size := by omega
      have hmm : MemL w7 w.heap.size (En.dv Ty0 x') [.string x'.name, .int .i64 x'.at_, .slice A1 x'.vals.length c1, .slice A2 x'.rngs.length c2, .slice A3 x'.nams.length c3] ([] ++ ([] ++ F)) :=
        .cons _ _ _ _ _ _ (.at_ _ rfl) (.cons _ _ _ _ _ _ (.at_ _ rfl) (hm.base hbs))
      exact bodyPost_ret (v := .agg #[.string x'.name, .int .i64 x'.at_, .slice A1 x'.vals.length c1, .slice A2 x'.rngs.length c2, .slice A3 x'.nams.length c3]) (by simp [results, Tryz.results179, go_sem, z0, z1, z2, z3, z4]) rfl ⟨_, rfl, _, _, rfl, hmm, P1.out, K1.out⟩
end
end Go.Proofs.YthmdaejlopjjoaaGreatDoor
