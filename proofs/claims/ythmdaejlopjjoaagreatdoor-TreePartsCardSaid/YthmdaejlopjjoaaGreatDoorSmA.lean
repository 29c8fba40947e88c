/-
  tree: Same: parts without lists.
  tree: Same: lists of parts without lists.
-/
import Derived.Test.YthmdaejlopjjoaaGreatDoorQmA
import Derived.Test.YthmdaejlopjjoaaGreatDoorPaA
import Derived.Deep.RegionHeld2
namespace Go.Proofs.YthmdaejlopjjoaaGreatDoor
section
open Go.RowKit
set_option linter.unusedVariables false
set_option linter.unusedSimpArgs false

theorem tl_iff (x y : ByteArray) : x.toList = y.toList ↔ x = y := by
  rw [ByteArray.toList_eq, ByteArray.toList_eq]
  constructor
  · intro h
    cases x; cases y
    simp only [ByteArray.mk.injEq]
    exact Array.toList_inj.1 h
  · rintro rfl; rfl
def Im.cl (x : Im) : List Value := [.string x.path, .bool x.pub, .int .i64 x.at_]
theorem Im.cl_q {w : World} {B : Nat} {x : Im} {xs : List Value} {F : List Nat} (h : MemL w B (Im.dv x) xs F) : xs = [.string x.path, .bool x.pub, .int .i64 x.at_] := MemL.plain_q (vs := Im.cl x) h
set_option maxRecDepth 100000 in
set_option maxHeartbeats 1000000 in
theorem sameImport_any (x y : Im) (w : World) : Calls Tryz.prog 37 #[.agg #[.string x.path, .bool x.pub, .int .i64 x.at_], .agg #[.string y.path, .bool y.pub, .int .i64 y.at_]] w fun e w' => e = .returned (.bool (x.eqB y)) ∧ Kn w w' := by
  unfold Im.eqB
  go_enter Tryz.func37, Tryz.ntmps37
  go_wp2_with fail
  all_goals
    first
    | (refine bodyPost_ret (v := .bool true) ?_ rfl ⟨?_, ((Kp.refl _ w).alloc _).alloc _⟩
       · simp [results, Tryz.results37, go_sem]; done
       · simp_all [tl_iff]; done)
    | (refine bodyPost_ret (v := .bool false) ?_ rfl ⟨?_, ((Kp.refl _ w).alloc _).alloc _⟩
       · simp [results, Tryz.results37, go_sem]; done
       · simp_all [tl_iff]; done)
def Tx.cl (x : Tx) : List Value := [.string x.s, .int .i64 x.at_]
theorem Tx.cl_q {w : World} {B : Nat} {x : Tx} {xs : List Value} {F : List Nat} (h : MemL w B (Tx.dv x) xs F) : xs = [.string x.s, .int .i64 x.at_] := MemL.plain_q (vs := Tx.cl x) h
set_option maxRecDepth 100000 in
set_option maxHeartbeats 1000000 in
theorem sameText_any (x y : Tx) (w : World) : Calls Tryz.prog 73 #[.agg #[.string x.s, .int .i64 x.at_], .agg #[.string y.s, .int .i64 y.at_]] w fun e w' => e = .returned (.bool (x.eqB y)) ∧ Kn w w' := by
  unfold Tx.eqB
  go_enter Tryz.func73, Tryz.ntmps73
  go_wp2_with fail
  all_goals
    first
    | (refine bodyPost_ret (v := .bool true) ?_ rfl ⟨?_, ((Kp.refl _ w).alloc _).alloc _⟩
       · simp [results, Tryz.results73, go_sem]; done
       · simp_all [tl_iff]; done)
    | (refine bodyPost_ret (v := .bool false) ?_ rfl ⟨?_, ((Kp.refl _ w).alloc _).alloc _⟩
       · simp [results, Tryz.results73, go_sem]; done
       · simp_all [tl_iff]; done)
def Sp.cl (x : Sp) : List Value := [.int .i64 x.lo, .int .i64 x.hi, .int .i64 x.at_]
theorem Sp.cl_q {w : World} {B : Nat} {x : Sp} {xs : List Value} {F : List Nat} (h : MemL w B (Sp.dv x) xs F) : xs = [.int .i64 x.lo, .int .i64 x.hi, .int .i64 x.at_] := MemL.plain_q (vs := Sp.cl x) h
set_option maxRecDepth 100000 in
set_option maxHeartbeats 1000000 in
theorem sameSpan_any (x y : Sp) (w : World) : Calls Tryz.prog 75 #[.agg #[.int .i64 x.lo, .int .i64 x.hi, .int .i64 x.at_], .agg #[.int .i64 y.lo, .int .i64 y.hi, .int .i64 y.at_]] w fun e w' => e = .returned (.bool (x.eqB y)) ∧ Kn w w' := by
  unfold Sp.eqB
  go_enter Tryz.func75, Tryz.ntmps75
  go_wp2_with fail
  all_goals
    first
    | (refine bodyPost_ret (v := .bool true) ?_ rfl ⟨?_, ((Kp.refl _ w).alloc _).alloc _⟩
       · simp [results, Tryz.results75, go_sem]; done
       · simp_all [tl_iff]; done)
    | (refine bodyPost_ret (v := .bool false) ?_ rfl ⟨?_, ((Kp.refl _ w).alloc _).alloc _⟩
       · simp [results, Tryz.results75, go_sem]; done
       · simp_all [tl_iff]; done)
def Fd.cl (x : Fd) : List Value := [.string x.name, .string x.typ, .string x.key, .string x.json, .int .i64 x.card, .int .i64 x.num, .int .i64 x.oneof, .int .i64 x.at_, .int .i64 x.tat, .int .i64 x.nat_]
theorem Fd.cl_q {w : World} {B : Nat} {x : Fd} {xs : List Value} {F : List Nat} (h : MemL w B (Fd.dv x) xs F) : xs = [.string x.name, .string x.typ, .string x.key, .string x.json, .int .i64 x.card, .int .i64 x.num, .int .i64 x.oneof, .int .i64 x.at_, .int .i64 x.tat, .int .i64 x.nat_] := MemL.plain_q (vs := Fd.cl x) h
set_option maxRecDepth 100000 in
set_option maxHeartbeats 1000000 in
theorem sameField_any (x y : Fd) (w : World) : Calls Tryz.prog 71 #[.agg #[.string x.name, .string x.typ, .string x.key, .string x.json, .int .i64 x.card, .int .i64 x.num, .int .i64 x.oneof, .int .i64 x.at_, .int .i64 x.tat, .int .i64 x.nat_], .agg #[.string y.name, .string y.typ, .string y.key, .string y.json, .int .i64 y.card, .int .i64 y.num, .int .i64 y.oneof, .int .i64 y.at_, .int .i64 y.tat, .int .i64 y.nat_]] w fun e w' => e = .returned (.bool (x.eqB y)) ∧ Kn w w' := by
  unfold Fd.eqB
  go_enter Tryz.func71, Tryz.ntmps71
  go_wp2_with fail
  go_region_held2 (fun w' => w'.cell? ⟨w.heap.size + 1, 7, none⟩ = some (.int .i64 y.at_) ∧ w'.cell? ⟨w.heap.size + 1, 8, none⟩ = some (.int .i64 y.tat) ∧ w'.cell? ⟨w.heap.size + 1, 9, none⟩ = some (.int .i64 y.nat_)) (first | assumption | go_keep) (fail)
  go_wp2_with fail
  all_goals
    first
    | (refine bodyPost_ret (v := .bool true) ?_ rfl ⟨?_, (((Kp.refl _ w).alloc _).alloc _).drew⟩
       · simp [results, Tryz.results71, go_sem]; done
       · simp_all [tl_iff]; done)
    | (refine bodyPost_ret (v := .bool false) ?_ rfl ⟨?_, (((Kp.refl _ w).alloc _).alloc _).drew⟩
       · simp [results, Tryz.results71, go_sem]; done
       · simp_all [tl_iff]; done)
def Vl.cl (x : Vl) : List Value := [.string x.name, .int .i64 x.num, .int .i64 x.at_]
theorem Vl.cl_q {w : World} {B : Nat} {x : Vl} {xs : List Value} {F : List Nat} (h : MemL w B (Vl.dv x) xs F) : xs = [.string x.name, .int .i64 x.num, .int .i64 x.at_] := MemL.plain_q (vs := Vl.cl x) h
set_option maxRecDepth 100000 in
set_option maxHeartbeats 1000000 in
theorem sameValue_any (x y : Vl) (w : World) : Calls Tryz.prog 77 #[.agg #[.string x.name, .int .i64 x.num, .int .i64 x.at_], .agg #[.string y.name, .int .i64 y.num, .int .i64 y.at_]] w fun e w' => e = .returned (.bool (x.eqB y)) ∧ Kn w w' := by
  unfold Vl.eqB
  go_enter Tryz.func77, Tryz.ntmps77
  go_wp2_with fail
  all_goals
    first
    | (refine bodyPost_ret (v := .bool true) ?_ rfl ⟨?_, ((Kp.refl _ w).alloc _).alloc _⟩
       · simp [results, Tryz.results77, go_sem]; done
       · simp_all [tl_iff]; done)
    | (refine bodyPost_ret (v := .bool false) ?_ rfl ⟨?_, ((Kp.refl _ w).alloc _).alloc _⟩
       · simp [results, Tryz.results77, go_sem]; done
       · simp_all [tl_iff]; done)
def Rp.cl (x : Rp) : List Value := [.string x.name, .string x.inn, .string x.out, .int .i64 x.at_, .int .i64 x.iat, .int .i64 x.oat]
theorem Rp.cl_q {w : World} {B : Nat} {x : Rp} {xs : List Value} {F : List Nat} (h : MemL w B (Rp.dv x) xs F) : xs = [.string x.name, .string x.inn, .string x.out, .int .i64 x.at_, .int .i64 x.iat, .int .i64 x.oat] := MemL.plain_q (vs := Rp.cl x) h
set_option maxRecDepth 100000 in
set_option maxHeartbeats 1000000 in
theorem sameRpc_any (x y : Rp) (w : World) : Calls Tryz.prog 79 #[.agg #[.string x.name, .string x.inn, .string x.out, .int .i64 x.at_, .int .i64 x.iat, .int .i64 x.oat], .agg #[.string y.name, .string y.inn, .string y.out, .int .i64 y.at_, .int .i64 y.iat, .int .i64 y.oat]] w fun e w' => e = .returned (.bool (x.eqB y)) ∧ Kn w w' := by
  unfold Rp.eqB
  go_enter Tryz.func79, Tryz.ntmps79
  go_wp2_with fail
  go_region_held2 (fun w' => w'.cell? ⟨w.heap.size + 1, 3, none⟩ = some (.int .i64 y.at_) ∧ w'.cell? ⟨w.heap.size + 1, 4, none⟩ = some (.int .i64 y.iat) ∧ w'.cell? ⟨w.heap.size + 1, 5, none⟩ = some (.int .i64 y.oat)) (first | assumption | go_keep) (fail)
  go_wp2_with fail
  all_goals
    first
    | (refine bodyPost_ret (v := .bool true) ?_ rfl ⟨?_, (((Kp.refl _ w).alloc _).alloc _).drew⟩
       · simp [results, Tryz.results79, go_sem]; done
       · simp_all [tl_iff]; done)
    | (refine bodyPost_ret (v := .bool false) ?_ rfl ⟨?_, (((Kp.refl _ w).alloc _).alloc _).drew⟩
       · simp [results, Tryz.results79, go_sem]; done
       · simp_all [tl_iff]; done)
end
section
open Go.RowKit
set_option linter.unusedVariables false
set_option linter.unusedSimpArgs false

theorem cell_kn {a b : World} (h : Kn a b) {p : Addr} {v : Value} (hp : a.cell? p = some v) : b.cell? p = some v := by
  have := h.block p.block (World.block_lt_of_cell? _ _ hp) (fun f => f)
  rw [← hp]
  unfold World.cell?
  simp only [this]
theorem cell_al {w : World} {o : Obj} {p : Addr} {v : Value} (hp : w.cell? p = some v) : (w.alloc o).cell? p = some v := cell_kn ((Kp.refl _ w).alloc o) hp
set_option maxRecDepth 100000 in
set_option maxHeartbeats 1000000 in
theorem eqIm_any {w : World} {B B' c c' : Nat} {l m : List Im} {A A' : Option Addr} {F F' : List Nat} (hl : Mem w B (lsD 37 3 Im.dv l) (.slice A l.length c) F) (hm : Mem w B' (lsD 37 3 Im.dv m) (.slice A' m.length c') F') :
    Calls Tryz.prog 36 #[.slice A l.length c, .slice A' m.length c', .func (.func 37) #[] #[]] w fun e w' => e = .returned (.bool (eqQ Im.eqB l m)) ∧ Kn w w' := by
  have HL := Lib.hid hl
  have HM := Lib.hid hm
  have hl2 : (l.length : Int) ≤ 9223372036854775807 := by obtain ⟨_, _, _, hn⟩ := hl.sl_q; unfold maxLen at hn; omega
  have hm2 : (m.length : Int) ≤ 9223372036854775807 := by obtain ⟨_, _, _, hn⟩ := hm.sl_q; unfold maxLen at hn; omega
  clear hl hm
  by_cases hlen : l.length = m.length
  · have hlen2 := Lib.hid hlen
    have hlen' : (l.length : Int) = (m.length : Int) := by omega
    clear hlen
    go_enter Tryz.func36, Tryz.ntmps36
    go_wp2_with fail
    go_loopg [17] l.length (fun g v17 wr => ∃ i : Nat, i ≤ l.length ∧ g = l.length - i ∧ v17 = .int .i64 i ∧ eqQ Im.eqB l m = eqQ Im.eqB (l.drop i) (m.drop i) ∧ Kn w wr)
    case atStart => exact ⟨0, Nat.zero_le _, rfl, rfl, rfl, Kp.refl _ _⟩
    case round =>
      obtain ⟨i, hi, rfl, rfl, heq, hkr⟩ := hrel
      have HKR := Lib.hid hkr
      have HEQ := Lib.hid heq
      clear hkr heq
      by_cases hil : i < l.length
      · have him : i < m.length := by have := hlen2.out; omega
        obtain ⟨g1, ys, G1, rfl, hml, hcell⟩ := row_at (f := Im.dv) (k := 3) (fun _ => rfl) (Mem.stays HL.out fun g hg => HKR.out.block g (Mem.lt HL.out g hg).2 (fun f => f)) hil
        obtain ⟨g2, zs, G2, rfl, hmm, hcelm⟩ := row_at (f := Im.dv) (k := 3) (fun _ => rfl) (Mem.stays HM.out fun g hg => HKR.out.block g (Mem.lt HM.out g hg).2 (fun f => f)) him
        obtain rfl := Im.cl_q hml
        obtain rfl := Im.cl_q hmm
        have HST := Lib.hid (HEQ.out.trans (eqQ_step Im.eqB hil him))
        generalize l[i] = x at *
        generalize m[i] = y at *
        have r0 := hcell 0 (by decide)
        have s0 := hcelm 0 (by decide)
        have r1 := hcell 1 (by decide)
        have s1 := hcelm 1 (by decide)
        have r2 := hcell 2 (by decide)
        have s2 := hcelm 2 (by decide)
        simp only [List.getElem?_cons_zero, List.getElem?_cons_succ, Nat.add_zero] at r0 s0 r1 s1 r2 s2
        have s0a := cell_al (o := .cells #[.string x.path, .bool x.pub, .int .i64 x.at_] 37) s0
        have s1a := cell_al (o := .cells #[.string x.path, .bool x.pub, .int .i64 x.at_] 37) s1
        have s2a := cell_al (o := .cells #[.string x.path, .bool x.pub, .int .i64 x.at_] 37) s2
        clear s0 s1 s2
        clear hcell hcelm hml hmm HEQ
        have hil' : (i : Int) < (l.length : Int) := by omega
        have him' : (i : Int) < (m.length : Int) := by omega
        go_wp2_with fail
        refine (sameImport_any x y _).mono ?_
        rintro e w4 ⟨rfl, hk4⟩
        have HK4 := Lib.hid hk4
        clear hk4
        cases hb : x.eqB y
        · go_wp2_with fail
          refine bodyPost_ret (v := .bool false) (by simp [results, Tryz.results36, go_sem]) rfl ⟨by rw [HST.out, hb]; rfl, ((HKR.out.alloc _).alloc _).trans HK4.out⟩
        · go_wp2_with fail
          go_roundg (l.length - (i + 1))
          case measure => omega
          case rel => exact ⟨i + 1, by omega, rfl, by go_num, by rw [HST.out, hb, Bool.true_and], ((HKR.out.alloc _).alloc _).trans HK4.out⟩
      · go_wp2_with fail
        refine bodyPost_ret (v := .bool true) (by simp [results, Tryz.results36, go_sem]) rfl ⟨by rw [HEQ.out, eqQ_end _ (by omega) (by have := hlen2.out; omega)], HKR.out⟩
  · have hlen' : ¬ (l.length : Int) = (m.length : Int) := by omega
    rw [eqQ_len _ hlen]
    go_enter Tryz.func36, Tryz.ntmps36
    go_wp2_with fail
    refine bodyPost_ret (v := .bool false) (by simp [results, Tryz.results36, go_sem]) rfl ⟨rfl, Kp.refl _ _⟩
set_option maxRecDepth 100000 in
set_option maxHeartbeats 1000000 in
theorem eqTx_any {w : World} {B B' c c' : Nat} {l m : List Tx} {A A' : Option Addr} {F F' : List Nat} (hl : Mem w B (lsD 99 2 Tx.dv l) (.slice A l.length c) F) (hm : Mem w B' (lsD 99 2 Tx.dv m) (.slice A' m.length c') F') :
    Calls Tryz.prog 72 #[.slice A l.length c, .slice A' m.length c', .func (.func 73) #[] #[]] w fun e w' => e = .returned (.bool (eqQ Tx.eqB l m)) ∧ Kn w w' := by
  have HL := Lib.hid hl
  have HM := Lib.hid hm
  have hl2 : (l.length : Int) ≤ 9223372036854775807 := by obtain ⟨_, _, _, hn⟩ := hl.sl_q; unfold maxLen at hn; omega
  have hm2 : (m.length : Int) ≤ 9223372036854775807 := by obtain ⟨_, _, _, hn⟩ := hm.sl_q; unfold maxLen at hn; omega
  clear hl hm
  by_cases hlen : l.length = m.length
  · have hlen2 := Lib.hid hlen
    have hlen' : (l.length : Int) = (m.length : Int) := by omega
    clear hlen
    go_enter Tryz.func72, Tryz.ntmps72
    go_wp2_with fail
    go_loopg [17] l.length (fun g v17 wr => ∃ i : Nat, i ≤ l.length ∧ g = l.length - i ∧ v17 = .int .i64 i ∧ eqQ Tx.eqB l m = eqQ Tx.eqB (l.drop i) (m.drop i) ∧ Kn w wr)
    case atStart => exact ⟨0, Nat.zero_le _, rfl, rfl, rfl, Kp.refl _ _⟩
    case round =>
      obtain ⟨i, hi, rfl, rfl, heq, hkr⟩ := hrel
      have HKR := Lib.hid hkr
      have HEQ := Lib.hid heq
      clear hkr heq
      by_cases hil : i < l.length
      · have him : i < m.length := by have := hlen2.out; omega
        obtain ⟨g1, ys, G1, rfl, hml, hcell⟩ := row_at (f := Tx.dv) (k := 2) (fun _ => rfl) (Mem.stays HL.out fun g hg => HKR.out.block g (Mem.lt HL.out g hg).2 (fun f => f)) hil
        obtain ⟨g2, zs, G2, rfl, hmm, hcelm⟩ := row_at (f := Tx.dv) (k := 2) (fun _ => rfl) (Mem.stays HM.out fun g hg => HKR.out.block g (Mem.lt HM.out g hg).2 (fun f => f)) him
        obtain rfl := Tx.cl_q hml
        obtain rfl := Tx.cl_q hmm
        have HST := Lib.hid (HEQ.out.trans (eqQ_step Tx.eqB hil him))
        generalize l[i] = x at *
        generalize m[i] = y at *
        have r0 := hcell 0 (by decide)
        have s0 := hcelm 0 (by decide)
        have r1 := hcell 1 (by decide)
        have s1 := hcelm 1 (by decide)
        simp only [List.getElem?_cons_zero, List.getElem?_cons_succ, Nat.add_zero] at r0 s0 r1 s1
        have s0a := cell_al (o := .cells #[.string x.s, .int .i64 x.at_] 99) s0
        have s1a := cell_al (o := .cells #[.string x.s, .int .i64 x.at_] 99) s1
        clear s0 s1
        clear hcell hcelm hml hmm HEQ
        have hil' : (i : Int) < (l.length : Int) := by omega
        have him' : (i : Int) < (m.length : Int) := by omega
        go_wp2_with fail
        refine (sameText_any x y _).mono ?_
        rintro e w4 ⟨rfl, hk4⟩
        have HK4 := Lib.hid hk4
        clear hk4
        cases hb : x.eqB y
        · go_wp2_with fail
          refine bodyPost_ret (v := .bool false) (by simp [results, Tryz.results72, go_sem]) rfl ⟨by rw [HST.out, hb]; rfl, ((HKR.out.alloc _).alloc _).trans HK4.out⟩
        · go_wp2_with fail
          go_roundg (l.length - (i + 1))
          case measure => omega
          case rel => exact ⟨i + 1, by omega, rfl, by go_num, by rw [HST.out, hb, Bool.true_and], ((HKR.out.alloc _).alloc _).trans HK4.out⟩
      · go_wp2_with fail
        refine bodyPost_ret (v := .bool true) (by simp [results, Tryz.results72, go_sem]) rfl ⟨by rw [HEQ.out, eqQ_end _ (by omega) (by have := hlen2.out; omega)], HKR.out⟩
  · have hlen' : ¬ (l.length : Int) = (m.length : Int) := by omega
    rw [eqQ_len _ hlen]
    go_enter Tryz.func72, Tryz.ntmps72
    go_wp2_with fail
    refine bodyPost_ret (v := .bool false) (by simp [results, Tryz.results72, go_sem]) rfl ⟨rfl, Kp.refl _ _⟩
set_option maxRecDepth 100000 in
set_option maxHeartbeats 1000000 in
theorem eqSp_any {w : World} {B B' c c' : Nat} {l m : List Sp} {A A' : Option Addr} {F F' : List Nat} (hl : Mem w B (lsD 126 3 Sp.dv l) (.slice A l.length c) F) (hm : Mem w B' (lsD 126 3 Sp.dv m) (.slice A' m.length c') F') :
    Calls Tryz.prog 74 #[.slice A l.length c, .slice A' m.length c', .func (.func 75) #[] #[]] w fun e w' => e = .returned (.bool (eqQ Sp.eqB l m)) ∧ Kn w w' := by
  have HL := Lib.hid hl
  have HM := Lib.hid hm
  have hl2 : (l.length : Int) ≤ 9223372036854775807 := by obtain ⟨_, _, _, hn⟩ := hl.sl_q; unfold maxLen at hn; omega
  have hm2 : (m.length : Int) ≤ 9223372036854775807 := by obtain ⟨_, _, _, hn⟩ := hm.sl_q; unfold maxLen at hn; omega
  clear hl hm
  by_cases hlen : l.length = m.length
  · have hlen2 := Lib.hid hlen
    have hlen' : (l.length : Int) = (m.length : Int) := by omega
    clear hlen
    go_enter Tryz.func74, Tryz.ntmps74
    go_wp2_with fail
    go_loopg [17] l.length (fun g v17 wr => ∃ i : Nat, i ≤ l.length ∧ g = l.length - i ∧ v17 = .int .i64 i ∧ eqQ Sp.eqB l m = eqQ Sp.eqB (l.drop i) (m.drop i) ∧ Kn w wr)
    case atStart => exact ⟨0, Nat.zero_le _, rfl, rfl, rfl, Kp.refl _ _⟩
    case round =>
      obtain ⟨i, hi, rfl, rfl, heq, hkr⟩ := hrel
      have HKR := Lib.hid hkr
      have HEQ := Lib.hid heq
      clear hkr heq
      by_cases hil : i < l.length
      · have him : i < m.length := by have := hlen2.out; omega
        obtain ⟨g1, ys, G1, rfl, hml, hcell⟩ := row_at (f := Sp.dv) (k := 3) (fun _ => rfl) (Mem.stays HL.out fun g hg => HKR.out.block g (Mem.lt HL.out g hg).2 (fun f => f)) hil
        obtain ⟨g2, zs, G2, rfl, hmm, hcelm⟩ := row_at (f := Sp.dv) (k := 3) (fun _ => rfl) (Mem.stays HM.out fun g hg => HKR.out.block g (Mem.lt HM.out g hg).2 (fun f => f)) him
        obtain rfl := Sp.cl_q hml
        obtain rfl := Sp.cl_q hmm
        have HST := Lib.hid (HEQ.out.trans (eqQ_step Sp.eqB hil him))
        generalize l[i] = x at *
        generalize m[i] = y at *
        have r0 := hcell 0 (by decide)
        have s0 := hcelm 0 (by decide)
        have r1 := hcell 1 (by decide)
        have s1 := hcelm 1 (by decide)
        have r2 := hcell 2 (by decide)
        have s2 := hcelm 2 (by decide)
        simp only [List.getElem?_cons_zero, List.getElem?_cons_succ, Nat.add_zero] at r0 s0 r1 s1 r2 s2
        have s0a := cell_al (o := .cells #[.int .i64 x.lo, .int .i64 x.hi, .int .i64 x.at_] 126) s0
        have s1a := cell_al (o := .cells #[.int .i64 x.lo, .int .i64 x.hi, .int .i64 x.at_] 126) s1
        have s2a := cell_al (o := .cells #[.int .i64 x.lo, .int .i64 x.hi, .int .i64 x.at_] 126) s2
        clear s0 s1 s2
        clear hcell hcelm hml hmm HEQ
        have hil' : (i : Int) < (l.length : Int) := by omega
        have him' : (i : Int) < (m.length : Int) := by omega
        go_wp2_with fail
        refine (sameSpan_any x y _).mono ?_
        rintro e w4 ⟨rfl, hk4⟩
        have HK4 := Lib.hid hk4
        clear hk4
        cases hb : x.eqB y
        · go_wp2_with fail
          refine bodyPost_ret (v := .bool false) (by simp [results, Tryz.results74, go_sem]) rfl ⟨by rw [HST.out, hb]; rfl, ((HKR.out.alloc _).alloc _).trans HK4.out⟩
        · go_wp2_with fail
          go_roundg (l.length - (i + 1))
          case measure => omega
          case rel => exact ⟨i + 1, by omega, rfl, by go_num, by rw [HST.out, hb, Bool.true_and], ((HKR.out.alloc _).alloc _).trans HK4.out⟩
      · go_wp2_with fail
        refine bodyPost_ret (v := .bool true) (by simp [results, Tryz.results74, go_sem]) rfl ⟨by rw [HEQ.out, eqQ_end _ (by omega) (by have := hlen2.out; omega)], HKR.out⟩
  · have hlen' : ¬ (l.length : Int) = (m.length : Int) := by omega
    rw [eqQ_len _ hlen]
    go_enter Tryz.func74, Tryz.ntmps74
    go_wp2_with fail
    refine bodyPost_ret (v := .bool false) (by simp [results, Tryz.results74, go_sem]) rfl ⟨rfl, Kp.refl _ _⟩
set_option maxRecDepth 100000 in
set_option maxHeartbeats 1000000 in
theorem eqFd_any {w : World} {B B' c c' : Nat} {l m : List Fd} {A A' : Option Addr} {F F' : List Nat} (hl : Mem w B (lsD 97 10 Fd.dv l) (.slice A l.length c) F) (hm : Mem w B' (lsD 97 10 Fd.dv m) (.slice A' m.length c') F') :
    Calls Tryz.prog 70 #[.slice A l.length c, .slice A' m.length c', .func (.func 71) #[] #[]] w fun e w' => e = .returned (.bool (eqQ Fd.eqB l m)) ∧ Kn w w' := by
  have HL := Lib.hid hl
  have HM := Lib.hid hm
  have hl2 : (l.length : Int) ≤ 9223372036854775807 := by obtain ⟨_, _, _, hn⟩ := hl.sl_q; unfold maxLen at hn; omega
  have hm2 : (m.length : Int) ≤ 9223372036854775807 := by obtain ⟨_, _, _, hn⟩ := hm.sl_q; unfold maxLen at hn; omega
  clear hl hm
  by_cases hlen : l.length = m.length
  · have hlen2 := Lib.hid hlen
    have hlen' : (l.length : Int) = (m.length : Int) := by omega
    clear hlen
    go_enter Tryz.func70, Tryz.ntmps70
    go_wp2_with fail
    go_loopg [17] l.length (fun g v17 wr => ∃ i : Nat, i ≤ l.length ∧ g = l.length - i ∧ v17 = .int .i64 i ∧ eqQ Fd.eqB l m = eqQ Fd.eqB (l.drop i) (m.drop i) ∧ Kn w wr)
    case atStart => exact ⟨0, Nat.zero_le _, rfl, rfl, rfl, Kp.refl _ _⟩
    case round =>
      obtain ⟨i, hi, rfl, rfl, heq, hkr⟩ := hrel
      have HKR := Lib.hid hkr
      have HEQ := Lib.hid heq
      clear hkr heq
      by_cases hil : i < l.length
      · have him : i < m.length := by have := hlen2.out; omega
        obtain ⟨g1, ys, G1, rfl, hml, hcell⟩ := row_at (f := Fd.dv) (k := 10) (fun _ => rfl) (Mem.stays HL.out fun g hg => HKR.out.block g (Mem.lt HL.out g hg).2 (fun f => f)) hil
        obtain ⟨g2, zs, G2, rfl, hmm, hcelm⟩ := row_at (f := Fd.dv) (k := 10) (fun _ => rfl) (Mem.stays HM.out fun g hg => HKR.out.block g (Mem.lt HM.out g hg).2 (fun f => f)) him
        obtain rfl := Fd.cl_q hml
        obtain rfl := Fd.cl_q hmm
        have HST := Lib.hid (HEQ.out.trans (eqQ_step Fd.eqB hil him))
        generalize l[i] = x at *
        generalize m[i] = y at *
        have r0 := hcell 0 (by decide)
        have s0 := hcelm 0 (by decide)
        have r1 := hcell 1 (by decide)
        have s1 := hcelm 1 (by decide)
        have r2 := hcell 2 (by decide)
        have s2 := hcelm 2 (by decide)
        have r3 := hcell 3 (by decide)
        have s3 := hcelm 3 (by decide)
        have r4 := hcell 4 (by decide)
        have s4 := hcelm 4 (by decide)
        have r5 := hcell 5 (by decide)
        have s5 := hcelm 5 (by decide)
        have r6 := hcell 6 (by decide)
        have s6 := hcelm 6 (by decide)
        have r7 := hcell 7 (by decide)
        have s7 := hcelm 7 (by decide)
        have r8 := hcell 8 (by decide)
        have s8 := hcelm 8 (by decide)
        have r9 := hcell 9 (by decide)
        have s9 := hcelm 9 (by decide)
        simp only [List.getElem?_cons_zero, List.getElem?_cons_succ, Nat.add_zero] at r0 s0 r1 s1 r2 s2 r3 s3 r4 s4 r5 s5 r6 s6 r7 s7 r8 s8 r9 s9
        have s0a := cell_al (o := .cells #[.string x.name, .string x.typ, .string x.key, .string x.json, .int .i64 x.card, .int .i64 x.num, .int .i64 x.oneof, .int .i64 x.at_, .int .i64 x.tat, .int .i64 x.nat_] 97) s0
        have s1a := cell_al (o := .cells #[.string x.name, .string x.typ, .string x.key, .string x.json, .int .i64 x.card, .int .i64 x.num, .int .i64 x.oneof, .int .i64 x.at_, .int .i64 x.tat, .int .i64 x.nat_] 97) s1
        have s2a := cell_al (o := .cells #[.string x.name, .string x.typ, .string x.key, .string x.json, .int .i64 x.card, .int .i64 x.num, .int .i64 x.oneof, .int .i64 x.at_, .int .i64 x.tat, .int .i64 x.nat_] 97) s2
        have s3a := cell_al (o := .cells #[.string x.name, .string x.typ, .string x.key, .string x.json, .int .i64 x.card, .int .i64 x.num, .int .i64 x.oneof, .int .i64 x.at_, .int .i64 x.tat, .int .i64 x.nat_] 97) s3
        have s4a := cell_al (o := .cells #[.string x.name, .string x.typ, .string x.key, .string x.json, .int .i64 x.card, .int .i64 x.num, .int .i64 x.oneof, .int .i64 x.at_, .int .i64 x.tat, .int .i64 x.nat_] 97) s4
        have s5a := cell_al (o := .cells #[.string x.name, .string x.typ, .string x.key, .string x.json, .int .i64 x.card, .int .i64 x.num, .int .i64 x.oneof, .int .i64 x.at_, .int .i64 x.tat, .int .i64 x.nat_] 97) s5
        have s6a := cell_al (o := .cells #[.string x.name, .string x.typ, .string x.key, .string x.json, .int .i64 x.card, .int .i64 x.num, .int .i64 x.oneof, .int .i64 x.at_, .int .i64 x.tat, .int .i64 x.nat_] 97) s6
        have s7a := cell_al (o := .cells #[.string x.name, .string x.typ, .string x.key, .string x.json, .int .i64 x.card, .int .i64 x.num, .int .i64 x.oneof, .int .i64 x.at_, .int .i64 x.tat, .int .i64 x.nat_] 97) s7
        have s8a := cell_al (o := .cells #[.string x.name, .string x.typ, .string x.key, .string x.json, .int .i64 x.card, .int .i64 x.num, .int .i64 x.oneof, .int .i64 x.at_, .int .i64 x.tat, .int .i64 x.nat_] 97) s8
        have s9a := cell_al (o := .cells #[.string x.name, .string x.typ, .string x.key, .string x.json, .int .i64 x.card, .int .i64 x.num, .int .i64 x.oneof, .int .i64 x.at_, .int .i64 x.tat, .int .i64 x.nat_] 97) s9
        clear s0 s1 s2 s3 s4 s5 s6 s7 s8 s9
        clear hcell hcelm hml hmm HEQ
        have hil' : (i : Int) < (l.length : Int) := by omega
        have him' : (i : Int) < (m.length : Int) := by omega
        go_wp2_with fail
        refine (sameField_any x y _).mono ?_
        rintro e w4 ⟨rfl, hk4⟩
        have HK4 := Lib.hid hk4
        clear hk4
        cases hb : x.eqB y
        · go_wp2_with fail
          refine bodyPost_ret (v := .bool false) (by simp [results, Tryz.results70, go_sem]) rfl ⟨by rw [HST.out, hb]; rfl, ((HKR.out.alloc _).alloc _).trans HK4.out⟩
        · go_wp2_with fail
          go_roundg (l.length - (i + 1))
          case measure => omega
          case rel => exact ⟨i + 1, by omega, rfl, by go_num, by rw [HST.out, hb, Bool.true_and], ((HKR.out.alloc _).alloc _).trans HK4.out⟩
      · go_wp2_with fail
        refine bodyPost_ret (v := .bool true) (by simp [results, Tryz.results70, go_sem]) rfl ⟨by rw [HEQ.out, eqQ_end _ (by omega) (by have := hlen2.out; omega)], HKR.out⟩
  · have hlen' : ¬ (l.length : Int) = (m.length : Int) := by omega
    rw [eqQ_len _ hlen]
    go_enter Tryz.func70, Tryz.ntmps70
    go_wp2_with fail
    refine bodyPost_ret (v := .bool false) (by simp [results, Tryz.results70, go_sem]) rfl ⟨rfl, Kp.refl _ _⟩
set_option maxRecDepth 100000 in
set_option maxHeartbeats 1000000 in
theorem eqVl_any {w : World} {B B' c c' : Nat} {l m : List Vl} {A A' : Option Addr} {F F' : List Nat} (hl : Mem w B (lsD 55 3 Vl.dv l) (.slice A l.length c) F) (hm : Mem w B' (lsD 55 3 Vl.dv m) (.slice A' m.length c') F') :
    Calls Tryz.prog 76 #[.slice A l.length c, .slice A' m.length c', .func (.func 77) #[] #[]] w fun e w' => e = .returned (.bool (eqQ Vl.eqB l m)) ∧ Kn w w' := by
  have HL := Lib.hid hl
  have HM := Lib.hid hm
  have hl2 : (l.length : Int) ≤ 9223372036854775807 := by obtain ⟨_, _, _, hn⟩ := hl.sl_q; unfold maxLen at hn; omega
  have hm2 : (m.length : Int) ≤ 9223372036854775807 := by obtain ⟨_, _, _, hn⟩ := hm.sl_q; unfold maxLen at hn; omega
  clear hl hm
  by_cases hlen : l.length = m.length
  · have hlen2 := Lib.hid hlen
    have hlen' : (l.length : Int) = (m.length : Int) := by omega
    clear hlen
    go_enter Tryz.func76, Tryz.ntmps76
    go_wp2_with fail
    go_loopg [17] l.length (fun g v17 wr => ∃ i : Nat, i ≤ l.length ∧ g = l.length - i ∧ v17 = .int .i64 i ∧ eqQ Vl.eqB l m = eqQ Vl.eqB (l.drop i) (m.drop i) ∧ Kn w wr)
    case atStart => exact ⟨0, Nat.zero_le _, rfl, rfl, rfl, Kp.refl _ _⟩
    case round =>
      obtain ⟨i, hi, rfl, rfl, heq, hkr⟩ := hrel
      have HKR := Lib.hid hkr
      have HEQ := Lib.hid heq
      clear hkr heq
      by_cases hil : i < l.length
      · have him : i < m.length := by have := hlen2.out; omega
        obtain ⟨g1, ys, G1, rfl, hml, hcell⟩ := row_at (f := Vl.dv) (k := 3) (fun _ => rfl) (Mem.stays HL.out fun g hg => HKR.out.block g (Mem.lt HL.out g hg).2 (fun f => f)) hil
        obtain ⟨g2, zs, G2, rfl, hmm, hcelm⟩ := row_at (f := Vl.dv) (k := 3) (fun _ => rfl) (Mem.stays HM.out fun g hg => HKR.out.block g (Mem.lt HM.out g hg).2 (fun f => f)) him
        obtain rfl := Vl.cl_q hml
        obtain rfl := Vl.cl_q hmm
        have HST := Lib.hid (HEQ.out.trans (eqQ_step Vl.eqB hil him))
        generalize l[i] = x at *
        generalize m[i] = y at *
        have r0 := hcell 0 (by decide)
        have s0 := hcelm 0 (by decide)
        have r1 := hcell 1 (by decide)
        have s1 := hcelm 1 (by decide)
        have r2 := hcell 2 (by decide)
        have s2 := hcelm 2 (by decide)
        simp only [List.getElem?_cons_zero, List.getElem?_cons_succ, Nat.add_zero] at r0 s0 r1 s1 r2 s2
        have s0a := cell_al (o := .cells #[.string x.name, .int .i64 x.num, .int .i64 x.at_] 55) s0
        have s1a := cell_al (o := .cells #[.string x.name, .int .i64 x.num, .int .i64 x.at_] 55) s1
        have s2a := cell_al (o := .cells #[.string x.name, .int .i64 x.num, .int .i64 x.at_] 55) s2
        clear s0 s1 s2
        clear hcell hcelm hml hmm HEQ
        have hil' : (i : Int) < (l.length : Int) := by omega
        have him' : (i : Int) < (m.length : Int) := by omega
        go_wp2_with fail
        refine (sameValue_any x y _).mono ?_
        rintro e w4 ⟨rfl, hk4⟩
        have HK4 := Lib.hid hk4
        clear hk4
        cases hb : x.eqB y
        · go_wp2_with fail
          refine bodyPost_ret (v := .bool false) (by simp [results, Tryz.results76, go_sem]) rfl ⟨by rw [HST.out, hb]; rfl, ((HKR.out.alloc _).alloc _).trans HK4.out⟩
        · go_wp2_with fail
          go_roundg (l.length - (i + 1))
          case measure => omega
          case rel => exact ⟨i + 1, by omega, rfl, by go_num, by rw [HST.out, hb, Bool.true_and], ((HKR.out.alloc _).alloc _).trans HK4.out⟩
      · go_wp2_with fail
        refine bodyPost_ret (v := .bool true) (by simp [results, Tryz.results76, go_sem]) rfl ⟨by rw [HEQ.out, eqQ_end _ (by omega) (by have := hlen2.out; omega)], HKR.out⟩
  · have hlen' : ¬ (l.length : Int) = (m.length : Int) := by omega
    rw [eqQ_len _ hlen]
    go_enter Tryz.func76, Tryz.ntmps76
    go_wp2_with fail
    refine bodyPost_ret (v := .bool false) (by simp [results, Tryz.results76, go_sem]) rfl ⟨rfl, Kp.refl _ _⟩
set_option maxRecDepth 100000 in
set_option maxHeartbeats 1000000 in
theorem eqRp_any {w : World} {B B' c c' : Nat} {l m : List Rp} {A A' : Option Addr} {F F' : List Nat} (hl : Mem w B (lsD 91 6 Rp.dv l) (.slice A l.length c) F) (hm : Mem w B' (lsD 91 6 Rp.dv m) (.slice A' m.length c') F') :
    Calls Tryz.prog 78 #[.slice A l.length c, .slice A' m.length c', .func (.func 79) #[] #[]] w fun e w' => e = .returned (.bool (eqQ Rp.eqB l m)) ∧ Kn w w' := by
  have HL := Lib.hid hl
  have HM := Lib.hid hm
  have hl2 : (l.length : Int) ≤ 9223372036854775807 := by obtain ⟨_, _, _, hn⟩ := hl.sl_q; unfold maxLen at hn; omega
  have hm2 : (m.length : Int) ≤ 9223372036854775807 := by obtain ⟨_, _, _, hn⟩ := hm.sl_q; unfold maxLen at hn; omega
  clear hl hm
  by_cases hlen : l.length = m.length
  · have hlen2 := Lib.hid hlen
    have hlen' : (l.length : Int) = (m.length : Int) := by omega
    clear hlen
    go_enter Tryz.func78, Tryz.ntmps78
    go_wp2_with fail
    go_loopg [17] l.length (fun g v17 wr => ∃ i : Nat, i ≤ l.length ∧ g = l.length - i ∧ v17 = .int .i64 i ∧ eqQ Rp.eqB l m = eqQ Rp.eqB (l.drop i) (m.drop i) ∧ Kn w wr)
    case atStart => exact ⟨0, Nat.zero_le _, rfl, rfl, rfl, Kp.refl _ _⟩
    case round =>
      obtain ⟨i, hi, rfl, rfl, heq, hkr⟩ := hrel
      have HKR := Lib.hid hkr
      have HEQ := Lib.hid heq
      clear hkr heq
      by_cases hil : i < l.length
      · have him : i < m.length := by have := hlen2.out; omega
        obtain ⟨g1, ys, G1, rfl, hml, hcell⟩ := row_at (f := Rp.dv) (k := 6) (fun _ => rfl) (Mem.stays HL.out fun g hg => HKR.out.block g (Mem.lt HL.out g hg).2 (fun f => f)) hil
        obtain ⟨g2, zs, G2, rfl, hmm, hcelm⟩ := row_at (f := Rp.dv) (k := 6) (fun _ => rfl) (Mem.stays HM.out fun g hg => HKR.out.block g (Mem.lt HM.out g hg).2 (fun f => f)) him
        obtain rfl := Rp.cl_q hml
        obtain rfl := Rp.cl_q hmm
        have HST := Lib.hid (HEQ.out.trans (eqQ_step Rp.eqB hil him))
        generalize l[i] = x at *
        generalize m[i] = y at *
        have r0 := hcell 0 (by decide)
        have s0 := hcelm 0 (by decide)
        have r1 := hcell 1 (by decide)
        have s1 := hcelm 1 (by decide)
        have r2 := hcell 2 (by decide)
        have s2 := hcelm 2 (by decide)
        have r3 := hcell 3 (by decide)
        have s3 := hcelm 3 (by decide)
        have r4 := hcell 4 (by decide)
        have s4 := hcelm 4 (by decide)
        have r5 := hcell 5 (by decide)
        have s5 := hcelm 5 (by decide)
        simp only [List.getElem?_cons_zero, List.getElem?_cons_succ, Nat.add_zero] at r0 s0 r1 s1 r2 s2 r3 s3 r4 s4 r5 s5
        have s0a := cell_al (o := .cells #[.string x.name, .string x.inn, .string x.out, .int .i64 x.at_, .int .i64 x.iat, .int .i64 x.oat] 91) s0
        have s1a := cell_al (o := .cells #[.string x.name, .string x.inn, .string x.out, .int .i64 x.at_, .int .i64 x.iat, .int .i64 x.oat] 91) s1
        have s2a := cell_al (o := .cells #[.string x.name, .string x.inn, .string x.out, .int .i64 x.at_, .int .i64 x.iat, .int .i64 x.oat] 91) s2
        have s3a := cell_al (o := .cells #[.string x.name, .string x.inn, .string x.out, .int .i64 x.at_, .int .i64 x.iat, .int .i64 x.oat] 91) s3
        have s4a := cell_al (o := .cells #[.string x.name, .string x.inn, .string x.out, .int .i64 x.at_, .int .i64 x.iat, .int .i64 x.oat] 91) s4
        have s5a := cell_al (o := .cells #[.string x.name, .string x.inn, .string x.out, .int .i64 x.at_, .int .i64 x.iat, .int .i64 x.oat] 91) s5
        clear s0 s1 s2 s3 s4 s5
        clear hcell hcelm hml hmm HEQ
        have hil' : (i : Int) < (l.length : Int) := by omega
        have him' : (i : Int) < (m.length : Int) := by omega
        go_wp2_with fail
        refine (sameRpc_any x y _).mono ?_
        rintro e w4 ⟨rfl, hk4⟩
        have HK4 := Lib.hid hk4
        clear hk4
        cases hb : x.eqB y
        · go_wp2_with fail
          refine bodyPost_ret (v := .bool false) (by simp [results, Tryz.results78, go_sem]) rfl ⟨by rw [HST.out, hb]; rfl, ((HKR.out.alloc _).alloc _).trans HK4.out⟩
        · go_wp2_with fail
          go_roundg (l.length - (i + 1))
          case measure => omega
          case rel => exact ⟨i + 1, by omega, rfl, by go_num, by rw [HST.out, hb, Bool.true_and], ((HKR.out.alloc _).alloc _).trans HK4.out⟩
      · go_wp2_with fail
        refine bodyPost_ret (v := .bool true) (by simp [results, Tryz.results78, go_sem]) rfl ⟨by rw [HEQ.out, eqQ_end _ (by omega) (by have := hlen2.out; omega)], HKR.out⟩
  · have hlen' : ¬ (l.length : Int) = (m.length : Int) := by omega
    rw [eqQ_len _ hlen]
    go_enter Tryz.func78, Tryz.ntmps78
    go_wp2_with fail
    refine bodyPost_ret (v := .bool false) (by simp [results, Tryz.results78, go_sem]) rfl ⟨rfl, Kp.refl _ _⟩
end
end Go.Proofs.YthmdaejlopjjoaaGreatDoor
