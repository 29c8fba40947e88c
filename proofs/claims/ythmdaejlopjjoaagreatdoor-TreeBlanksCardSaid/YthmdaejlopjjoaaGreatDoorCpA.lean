/-
  tree: copies: lists of parts without lists.
  tree: copies: enums, services.
  tree: copies: lists of enums, of services.
-/
import Derived.Test.YthmdaejlopjjoaaGreatDoorTrQe
import Derived.Test.YthmdaejlopjjoaaGreatDoorQmA
namespace Go.Proofs.YthmdaejlopjjoaaGreatDoor
section
open Go.RowKit
set_option linter.unusedVariables false
set_option linter.unusedSimpArgs false

theorem Tryz.info37q : (Tryz.prog.info? 37).map (fun i => (i.zero, i.size, i.bytes)) = some (some (.agg #[.string ⟨#[]⟩, .bool false, .int .i64 0]), 3, 32) := by kernel_rfl
theorem Im.mem_q (w : World) (B : Nat) (x : Im) : MemL w B (Im.dv x) (Im.cl x) [] := MemL.plain w B (Im.cl x) (by
  intro u hu
  unfold Im.cl at hu
  simp only [List.mem_cons, List.mem_nil_iff, or_false] at hu
  rcases hu with rfl | rfl | rfl
  all_goals rfl)
set_option maxRecDepth 100000 in
set_option maxHeartbeats 2000000 in
theorem eachIm_bare {w : World} {B c : Nat} {l : List Im} {A : Option Addr} {F : List Nat} (hl : Mem w B (lsD 37 3 Im.dv l) (.slice A l.length c) F) (hf : Ls Im.Few l) :
    Calls Tryz.prog 82 #[.slice A l.length c, .func (.func 83) #[.func (.func 49) #[] #[]] #[]] w fun e w' => ∃ v G, e = .returned v ∧ Mem w' w.heap.size (lsD 37 3 Im.dv (l.map Im.bare)) v G ∧ Kn w w' := by
  have HL := Lib.hid hl
  have HF := Lib.hid hf
  have hl2 : (l.length : Int) ≤ 128 := by have := hf.len; omega
  clear hl hf
  obtain ⟨i0, hi0, hz0, hz1, hz2⟩ := info_parts Tryz.info37q
  go_enter Tryz.func82, Tryz.ntmps82
  go_wp2_with fail
  go_loopg [5, 10] l.length (fun g v5 v10 wr => ∃ (i : Nat) (C : List Nat), i ≤ l.length ∧ g = l.length - i ∧ v10 = .int .i64 i ∧ Rows_ wr w.heap.size [⟨37, 3, i, ((l.take i).map Im.bare).flatMap Im.dv, v5⟩] C ∧ Kn w wr)
  case atStart => exact ⟨0, [], Nat.zero_le _, rfl, rfl, Rows_.nils w w.heap.size [(37, 3)], Kp.refl _ _⟩
  case round =>
    obtain ⟨i, C, hi, rfl, rfl, hrw, hkr⟩ := hrel
    have HKR := Lib.hid hkr
    have HRW := Lib.hid hrw
    clear hkr hrw
    by_cases hil : i < l.length
    · obtain ⟨g1, ys, G1, rfl, hml, hcell⟩ := row_at (f := Im.dv) (k := 3) (fun _ => rfl) (Mem.stays HL.out fun g hg => HKR.out.block g (Mem.lt HL.out g hg).2 (fun f => f)) hil
      obtain rfl := Im.cl_q hml
      have hx := HF.out.all _ (List.getElem_mem hil)
      have HTK := Lib.hid (List.take_succ_eq_append_getElem hil)
      generalize l[i] = x at *
      have r0 := hcell 0 (by decide)
      have r1 := hcell 1 (by decide)
      have r2 := hcell 2 (by decide)
      simp only [List.getElem?_cons_zero, List.getElem?_cons_succ, Nat.add_zero] at r0 r1 r2
      clear hcell hml
      have hil' : (i : Int) < (l.length : Int) := by omega
      have HC := Lib.hid (fun W => importC_bare x W (hx))
      clear hx
      go_wp2_with fail
      refine (HC.out _).mono ?_
      rintro e w4 ⟨rfl, hk4⟩
      have HK4 := Lib.hid ((HKR.out.alloc (.cells #[.string x.path, .bool x.pub, .int .i64 x.at_] 37)).trans hk4)
      have HRW4 := Lib.hid (((HRW.out.alloc (.cells #[.string x.path, .bool x.pub, .int .i64 x.at_] 37)).kp hk4 (fun g f => f.elim)).alloc (.cells #[.string x.path, .bool x.pub, .int .i64 (0)] 37))
      have hBz : w.heap.size ≤ (w4.alloc (.cells #[.string x.path, .bool x.pub, .int .i64 (0)] 37)).heap.size := by have := HK4.out.size; simp; omega
      have hal : i ≤ 1000000 := by omega
      clear hk4 HC r0 r1 r2
      go_wp2_with (at_builtin; refine wpList_append_rows _ rfl _ _ 22 rfl HRW4.out 0 _ rfl i0 _ 32 Tryz.underlying22 hi0 hz0 hz1 hz2 rfl (Nat.succ_pos 2) rfl w4.heap.size rfl _ (Im.dv (Im.bare x)) (Blk.new w4 37 _) rfl (Im.mem_q _ w.heap.size (Im.bare x)) (by intro q hq; cases hq) hal (by decide) hBz ?_; intro v5 w5 ho5 hg5 hv5; have HO5 := Lib.hid ho5; have HG5 := Lib.hid hg5; clear ho5 hg5 hv5)
      go_roundg (l.length - (i + 1))
      case measure => omega
      case rel =>
        refine ⟨i + 1, C ++ [], by omega, rfl, by go_num, ?_, (HK4.out.alloc _).grown HG5.out fun q hq hlt => by have := (HRW4.out.own_mem (j := 0) rfl hq).2.1; omega⟩
        have h5 := HO5.out
        rw [HTK.out, List.map_append, List.flatMap_append]
        simpa using h5
    · go_wp2_with fail
      obtain ⟨G, hm, -⟩ := HRW.out.mem
      have hii : i = l.length := by omega
      subst hii
      rw [List.take_length] at hm
      cases hm with
      | cons d v F ds vs G h0 ht =>
      refine bodyPost_ret (v := _) (by simp [results, Tryz.results82, go_sem]; rfl) rfl ⟨_, F, rfl, ?_, HKR.out⟩
      unfold lsD
      rw [List.length_map]
      exact h0
theorem Tryz.info99q : (Tryz.prog.info? 99).map (fun i => (i.zero, i.size, i.bytes)) = some (some (.agg #[.string ⟨#[]⟩, .int .i64 0]), 2, 24) := by kernel_rfl
theorem Tx.mem_q (w : World) (B : Nat) (x : Tx) : MemL w B (Tx.dv x) (Tx.cl x) [] := MemL.plain w B (Tx.cl x) (by
  intro u hu
  unfold Tx.cl at hu
  simp only [List.mem_cons, List.mem_nil_iff, or_false] at hu
  rcases hu with rfl | rfl
  all_goals rfl)
set_option maxRecDepth 100000 in
set_option maxHeartbeats 2000000 in
theorem eachTx_bare {w : World} {B c : Nat} {l : List Tx} {A : Option Addr} {F : List Nat} (hl : Mem w B (lsD 99 2 Tx.dv l) (.slice A l.length c) F) (hf : Ls Tx.Few l) :
    Calls Tryz.prog 127 #[.slice A l.length c, .func (.func 128) #[.func (.func 49) #[] #[]] #[]] w fun e w' => ∃ v G, e = .returned v ∧ Mem w' w.heap.size (lsD 99 2 Tx.dv (l.map Tx.bare)) v G ∧ Kn w w' := by
  have HL := Lib.hid hl
  have HF := Lib.hid hf
  have hl2 : (l.length : Int) ≤ 128 := by have := hf.len; omega
  clear hl hf
  obtain ⟨i0, hi0, hz0, hz1, hz2⟩ := info_parts Tryz.info99q
  go_enter Tryz.func127, Tryz.ntmps127
  go_wp2_with fail
  go_loopg [5, 10] l.length (fun g v5 v10 wr => ∃ (i : Nat) (C : List Nat), i ≤ l.length ∧ g = l.length - i ∧ v10 = .int .i64 i ∧ Rows_ wr w.heap.size [⟨99, 2, i, ((l.take i).map Tx.bare).flatMap Tx.dv, v5⟩] C ∧ Kn w wr)
  case atStart => exact ⟨0, [], Nat.zero_le _, rfl, rfl, Rows_.nils w w.heap.size [(99, 2)], Kp.refl _ _⟩
  case round =>
    obtain ⟨i, C, hi, rfl, rfl, hrw, hkr⟩ := hrel
    have HKR := Lib.hid hkr
    have HRW := Lib.hid hrw
    clear hkr hrw
    by_cases hil : i < l.length
    · obtain ⟨g1, ys, G1, rfl, hml, hcell⟩ := row_at (f := Tx.dv) (k := 2) (fun _ => rfl) (Mem.stays HL.out fun g hg => HKR.out.block g (Mem.lt HL.out g hg).2 (fun f => f)) hil
      obtain rfl := Tx.cl_q hml
      have hx := HF.out.all _ (List.getElem_mem hil)
      have HTK := Lib.hid (List.take_succ_eq_append_getElem hil)
      generalize l[i] = x at *
      have r0 := hcell 0 (by decide)
      have r1 := hcell 1 (by decide)
      simp only [List.getElem?_cons_zero, List.getElem?_cons_succ, Nat.add_zero] at r0 r1
      clear hcell hml
      have hil' : (i : Int) < (l.length : Int) := by omega
      have HC := Lib.hid (fun W => textC_bare x W (hx))
      clear hx
      go_wp2_with fail
      refine (HC.out _).mono ?_
      rintro e w4 ⟨rfl, hk4⟩
      have HK4 := Lib.hid ((HKR.out.alloc (.cells #[.string x.s, .int .i64 x.at_] 99)).trans hk4)
      have HRW4 := Lib.hid (((HRW.out.alloc (.cells #[.string x.s, .int .i64 x.at_] 99)).kp hk4 (fun g f => f.elim)).alloc (.cells #[.string x.s, .int .i64 (0)] 99))
      have hBz : w.heap.size ≤ (w4.alloc (.cells #[.string x.s, .int .i64 (0)] 99)).heap.size := by have := HK4.out.size; simp; omega
      have hal : i ≤ 1000000 := by omega
      clear hk4 HC r0 r1
      go_wp2_with (at_builtin; refine wpList_append_rows _ rfl _ _ 46 rfl HRW4.out 0 _ rfl i0 _ 24 Tryz.underlying46 hi0 hz0 hz1 hz2 rfl (Nat.succ_pos 1) rfl w4.heap.size rfl _ (Tx.dv (Tx.bare x)) (Blk.new w4 99 _) rfl (Tx.mem_q _ w.heap.size (Tx.bare x)) (by intro q hq; cases hq) hal (by decide) hBz ?_; intro v5 w5 ho5 hg5 hv5; have HO5 := Lib.hid ho5; have HG5 := Lib.hid hg5; clear ho5 hg5 hv5)
      go_roundg (l.length - (i + 1))
      case measure => omega
      case rel =>
        refine ⟨i + 1, C ++ [], by omega, rfl, by go_num, ?_, (HK4.out.alloc _).grown HG5.out fun q hq hlt => by have := (HRW4.out.own_mem (j := 0) rfl hq).2.1; omega⟩
        have h5 := HO5.out
        rw [HTK.out, List.map_append, List.flatMap_append]
        simpa using h5
    · go_wp2_with fail
      obtain ⟨G, hm, -⟩ := HRW.out.mem
      have hii : i = l.length := by omega
      subst hii
      rw [List.take_length] at hm
      cases hm with
      | cons d v F ds vs G h0 ht =>
      refine bodyPost_ret (v := _) (by simp [results, Tryz.results127, go_sem]; rfl) rfl ⟨_, F, rfl, ?_, HKR.out⟩
      unfold lsD
      rw [List.length_map]
      exact h0
theorem Tryz.info126q : (Tryz.prog.info? 126).map (fun i => (i.zero, i.size, i.bytes)) = some (some (.agg #[.int .i64 0, .int .i64 0, .int .i64 0]), 3, 24) := by kernel_rfl
theorem Sp.mem_q (w : World) (B : Nat) (x : Sp) : MemL w B (Sp.dv x) (Sp.cl x) [] := MemL.plain w B (Sp.cl x) (by
  intro u hu
  unfold Sp.cl at hu
  simp only [List.mem_cons, List.mem_nil_iff, or_false] at hu
  rcases hu with rfl | rfl | rfl
  all_goals rfl)
set_option maxRecDepth 100000 in
set_option maxHeartbeats 2000000 in
theorem eachSp_bare {w : World} {B c : Nat} {l : List Sp} {A : Option Addr} {F : List Nat} (hl : Mem w B (lsD 126 3 Sp.dv l) (.slice A l.length c) F) (hf : Ls Sp.Few l) :
    Calls Tryz.prog 129 #[.slice A l.length c, .func (.func 130) #[.func (.func 49) #[] #[]] #[]] w fun e w' => ∃ v G, e = .returned v ∧ Mem w' w.heap.size (lsD 126 3 Sp.dv (l.map Sp.bare)) v G ∧ Kn w w' := by
  have HL := Lib.hid hl
  have HF := Lib.hid hf
  have hl2 : (l.length : Int) ≤ 128 := by have := hf.len; omega
  clear hl hf
  obtain ⟨i0, hi0, hz0, hz1, hz2⟩ := info_parts Tryz.info126q
  go_enter Tryz.func129, Tryz.ntmps129
  go_wp2_with fail
  go_loopg [5, 10] l.length (fun g v5 v10 wr => ∃ (i : Nat) (C : List Nat), i ≤ l.length ∧ g = l.length - i ∧ v10 = .int .i64 i ∧ Rows_ wr w.heap.size [⟨126, 3, i, ((l.take i).map Sp.bare).flatMap Sp.dv, v5⟩] C ∧ Kn w wr)
  case atStart => exact ⟨0, [], Nat.zero_le _, rfl, rfl, Rows_.nils w w.heap.size [(126, 3)], Kp.refl _ _⟩
  case round =>
    obtain ⟨i, C, hi, rfl, rfl, hrw, hkr⟩ := hrel
    have HKR := Lib.hid hkr
    have HRW := Lib.hid hrw
    clear hkr hrw
    by_cases hil : i < l.length
    · obtain ⟨g1, ys, G1, rfl, hml, hcell⟩ := row_at (f := Sp.dv) (k := 3) (fun _ => rfl) (Mem.stays HL.out fun g hg => HKR.out.block g (Mem.lt HL.out g hg).2 (fun f => f)) hil
      obtain rfl := Sp.cl_q hml
      have hx := HF.out.all _ (List.getElem_mem hil)
      have HTK := Lib.hid (List.take_succ_eq_append_getElem hil)
      generalize l[i] = x at *
      have r0 := hcell 0 (by decide)
      have r1 := hcell 1 (by decide)
      have r2 := hcell 2 (by decide)
      simp only [List.getElem?_cons_zero, List.getElem?_cons_succ, Nat.add_zero] at r0 r1 r2
      clear hcell hml
      have hil' : (i : Int) < (l.length : Int) := by omega
      have HC := Lib.hid (fun W => spanC_bare x W)
      clear hx
      go_wp2_with fail
      refine (HC.out _).mono ?_
      rintro e w4 ⟨rfl, hk4⟩
      have HK4 := Lib.hid ((HKR.out.alloc (.cells #[.int .i64 x.lo, .int .i64 x.hi, .int .i64 x.at_] 126)).trans hk4)
      have HRW4 := Lib.hid (((HRW.out.alloc (.cells #[.int .i64 x.lo, .int .i64 x.hi, .int .i64 x.at_] 126)).kp hk4 (fun g f => f.elim)).alloc (.cells #[.int .i64 x.lo, .int .i64 x.hi, .int .i64 (0)] 126))
      have hBz : w.heap.size ≤ (w4.alloc (.cells #[.int .i64 x.lo, .int .i64 x.hi, .int .i64 (0)] 126)).heap.size := by have := HK4.out.size; simp; omega
      have hal : i ≤ 1000000 := by omega
      clear hk4 HC r0 r1 r2
      go_wp2_with (at_builtin; refine wpList_append_rows _ rfl _ _ 47 rfl HRW4.out 0 _ rfl i0 _ 24 Tryz.underlying47 hi0 hz0 hz1 hz2 rfl (Nat.succ_pos 2) rfl w4.heap.size rfl _ (Sp.dv (Sp.bare x)) (Blk.new w4 126 _) rfl (Sp.mem_q _ w.heap.size (Sp.bare x)) (by intro q hq; cases hq) hal (by decide) hBz ?_; intro v5 w5 ho5 hg5 hv5; have HO5 := Lib.hid ho5; have HG5 := Lib.hid hg5; clear ho5 hg5 hv5)
      go_roundg (l.length - (i + 1))
      case measure => omega
      case rel =>
        refine ⟨i + 1, C ++ [], by omega, rfl, by go_num, ?_, (HK4.out.alloc _).grown HG5.out fun q hq hlt => by have := (HRW4.out.own_mem (j := 0) rfl hq).2.1; omega⟩
        have h5 := HO5.out
        rw [HTK.out, List.map_append, List.flatMap_append]
        simpa using h5
    · go_wp2_with fail
      obtain ⟨G, hm, -⟩ := HRW.out.mem
      have hii : i = l.length := by omega
      subst hii
      rw [List.take_length] at hm
      cases hm with
      | cons d v F ds vs G h0 ht =>
      refine bodyPost_ret (v := _) (by simp [results, Tryz.results129, go_sem]; rfl) rfl ⟨_, F, rfl, ?_, HKR.out⟩
      unfold lsD
      rw [List.length_map]
      exact h0
theorem Tryz.info97q : (Tryz.prog.info? 97).map (fun i => (i.zero, i.size, i.bytes)) = some (some (.agg #[.string ⟨#[]⟩, .string ⟨#[]⟩, .string ⟨#[]⟩, .string ⟨#[]⟩, .int .i64 0, .int .i64 0, .int .i64 0, .int .i64 0, .int .i64 0, .int .i64 0]), 10, 112) := by kernel_rfl
theorem Fd.mem_q (w : World) (B : Nat) (x : Fd) : MemL w B (Fd.dv x) (Fd.cl x) [] := MemL.plain w B (Fd.cl x) (by
  intro u hu
  unfold Fd.cl at hu
  simp only [List.mem_cons, List.mem_nil_iff, or_false] at hu
  rcases hu with rfl | rfl | rfl | rfl | rfl | rfl | rfl | rfl | rfl | rfl
  all_goals rfl)
set_option maxRecDepth 100000 in
set_option maxHeartbeats 2000000 in
theorem eachFd_bare {w : World} {B c : Nat} {l : List Fd} {A : Option Addr} {F : List Nat} (hl : Mem w B (lsD 97 10 Fd.dv l) (.slice A l.length c) F) (hf : Ls Fd.Few l) :
    Calls Tryz.prog 125 #[.slice A l.length c, .func (.func 126) #[.func (.func 49) #[] #[]] #[]] w fun e w' => ∃ v G, e = .returned v ∧ Mem w' w.heap.size (lsD 97 10 Fd.dv (l.map Fd.bare)) v G ∧ Kn w w' := by
  have HL := Lib.hid hl
  have HF := Lib.hid hf
  have hl2 : (l.length : Int) ≤ 128 := by have := hf.len; omega
  clear hl hf
  obtain ⟨i0, hi0, hz0, hz1, hz2⟩ := info_parts Tryz.info97q
  go_enter Tryz.func125, Tryz.ntmps125
  go_wp2_with fail
  go_loopg [5, 10] l.length (fun g v5 v10 wr => ∃ (i : Nat) (C : List Nat), i ≤ l.length ∧ g = l.length - i ∧ v10 = .int .i64 i ∧ Rows_ wr w.heap.size [⟨97, 10, i, ((l.take i).map Fd.bare).flatMap Fd.dv, v5⟩] C ∧ Kn w wr)
  case atStart => exact ⟨0, [], Nat.zero_le _, rfl, rfl, Rows_.nils w w.heap.size [(97, 10)], Kp.refl _ _⟩
  case round =>
    obtain ⟨i, C, hi, rfl, rfl, hrw, hkr⟩ := hrel
    have HKR := Lib.hid hkr
    have HRW := Lib.hid hrw
    clear hkr hrw
    by_cases hil : i < l.length
    · obtain ⟨g1, ys, G1, rfl, hml, hcell⟩ := row_at (f := Fd.dv) (k := 10) (fun _ => rfl) (Mem.stays HL.out fun g hg => HKR.out.block g (Mem.lt HL.out g hg).2 (fun f => f)) hil
      obtain rfl := Fd.cl_q hml
      have hx := HF.out.all _ (List.getElem_mem hil)
      have HTK := Lib.hid (List.take_succ_eq_append_getElem hil)
      generalize l[i] = x at *
      have r0 := hcell 0 (by decide)
      have r1 := hcell 1 (by decide)
      have r2 := hcell 2 (by decide)
      have r3 := hcell 3 (by decide)
      have r4 := hcell 4 (by decide)
      have r5 := hcell 5 (by decide)
      have r6 := hcell 6 (by decide)
      have r7 := hcell 7 (by decide)
      have r8 := hcell 8 (by decide)
      have r9 := hcell 9 (by decide)
      simp only [List.getElem?_cons_zero, List.getElem?_cons_succ, Nat.add_zero] at r0 r1 r2 r3 r4 r5 r6 r7 r8 r9
      clear hcell hml
      have hil' : (i : Int) < (l.length : Int) := by omega
      have HC := Lib.hid (fun W => fieldC_bare x W (hx.1) (hx.2.1) (hx.2.2.1) (hx.2.2.2))
      clear hx
      go_wp2_with fail
      refine (HC.out _).mono ?_
      rintro e w4 ⟨rfl, hk4⟩
      have HK4 := Lib.hid ((HKR.out.alloc (.cells #[.string x.name, .string x.typ, .string x.key, .string x.json, .int .i64 x.card, .int .i64 x.num, .int .i64 x.oneof, .int .i64 x.at_, .int .i64 x.tat, .int .i64 x.nat_] 97)).trans hk4)
      have HRW4 := Lib.hid (((HRW.out.alloc (.cells #[.string x.name, .string x.typ, .string x.key, .string x.json, .int .i64 x.card, .int .i64 x.num, .int .i64 x.oneof, .int .i64 x.at_, .int .i64 x.tat, .int .i64 x.nat_] 97)).kp hk4 (fun g f => f.elim)).alloc (.cells #[.string x.name, .string x.typ, .string x.key, .string x.json, .int .i64 x.card, .int .i64 x.num, .int .i64 x.oneof, .int .i64 (0), .int .i64 (0), .int .i64 (0)] 97))
      have hBz : w.heap.size ≤ (w4.alloc (.cells #[.string x.name, .string x.typ, .string x.key, .string x.json, .int .i64 x.card, .int .i64 x.num, .int .i64 x.oneof, .int .i64 (0), .int .i64 (0), .int .i64 (0)] 97)).heap.size := by have := HK4.out.size; simp; omega
      have hal : i ≤ 1000000 := by omega
      clear hk4 HC r0 r1 r2 r3 r4 r5 r6 r7 r8 r9
      go_wp2_with (at_builtin; refine wpList_append_rows _ rfl _ _ 45 rfl HRW4.out 0 _ rfl i0 _ 112 Tryz.underlying45 hi0 hz0 hz1 hz2 rfl (Nat.succ_pos 9) rfl w4.heap.size rfl _ (Fd.dv (Fd.bare x)) (Blk.new w4 97 _) rfl (Fd.mem_q _ w.heap.size (Fd.bare x)) (by intro q hq; cases hq) hal (by decide) hBz ?_; intro v5 w5 ho5 hg5 hv5; have HO5 := Lib.hid ho5; have HG5 := Lib.hid hg5; clear ho5 hg5 hv5)
      go_roundg (l.length - (i + 1))
      case measure => omega
      case rel =>
        refine ⟨i + 1, C ++ [], by omega, rfl, by go_num, ?_, (HK4.out.alloc _).grown HG5.out fun q hq hlt => by have := (HRW4.out.own_mem (j := 0) rfl hq).2.1; omega⟩
        have h5 := HO5.out
        rw [HTK.out, List.map_append, List.flatMap_append]
        simpa using h5
    · go_wp2_with fail
      obtain ⟨G, hm, -⟩ := HRW.out.mem
      have hii : i = l.length := by omega
      subst hii
      rw [List.take_length] at hm
      cases hm with
      | cons d v F ds vs G h0 ht =>
      refine bodyPost_ret (v := _) (by simp [results, Tryz.results125, go_sem]; rfl) rfl ⟨_, F, rfl, ?_, HKR.out⟩
      unfold lsD
      rw [List.length_map]
      exact h0
theorem Tryz.info55q : (Tryz.prog.info? 55).map (fun i => (i.zero, i.size, i.bytes)) = some (some (.agg #[.string ⟨#[]⟩, .int .i64 0, .int .i64 0]), 3, 32) := by kernel_rfl
theorem Vl.mem_q (w : World) (B : Nat) (x : Vl) : MemL w B (Vl.dv x) (Vl.cl x) [] := MemL.plain w B (Vl.cl x) (by
  intro u hu
  unfold Vl.cl at hu
  simp only [List.mem_cons, List.mem_nil_iff, or_false] at hu
  rcases hu with rfl | rfl | rfl
  all_goals rfl)
set_option maxRecDepth 100000 in
set_option maxHeartbeats 2000000 in
theorem eachVl_bare {w : World} {B c : Nat} {l : List Vl} {A : Option Addr} {F : List Nat} (hl : Mem w B (lsD 55 3 Vl.dv l) (.slice A l.length c) F) (hf : Ls Vl.Few l) :
    Calls Tryz.prog 131 #[.slice A l.length c, .func (.func 132) #[.func (.func 49) #[] #[]] #[]] w fun e w' => ∃ v G, e = .returned v ∧ Mem w' w.heap.size (lsD 55 3 Vl.dv (l.map Vl.bare)) v G ∧ Kn w w' := by
  have HL := Lib.hid hl
  have HF := Lib.hid hf
  have hl2 : (l.length : Int) ≤ 128 := by have := hf.len; omega
  clear hl hf
  obtain ⟨i0, hi0, hz0, hz1, hz2⟩ := info_parts Tryz.info55q
  go_enter Tryz.func131, Tryz.ntmps131
  go_wp2_with fail
  go_loopg [5, 10] l.length (fun g v5 v10 wr => ∃ (i : Nat) (C : List Nat), i ≤ l.length ∧ g = l.length - i ∧ v10 = .int .i64 i ∧ Rows_ wr w.heap.size [⟨55, 3, i, ((l.take i).map Vl.bare).flatMap Vl.dv, v5⟩] C ∧ Kn w wr)
  case atStart => exact ⟨0, [], Nat.zero_le _, rfl, rfl, Rows_.nils w w.heap.size [(55, 3)], Kp.refl _ _⟩
  case round =>
    obtain ⟨i, C, hi, rfl, rfl, hrw, hkr⟩ := hrel
    have HKR := Lib.hid hkr
    have HRW := Lib.hid hrw
    clear hkr hrw
    by_cases hil : i < l.length
    · obtain ⟨g1, ys, G1, rfl, hml, hcell⟩ := row_at (f := Vl.dv) (k := 3) (fun _ => rfl) (Mem.stays HL.out fun g hg => HKR.out.block g (Mem.lt HL.out g hg).2 (fun f => f)) hil
      obtain rfl := Vl.cl_q hml
      have hx := HF.out.all _ (List.getElem_mem hil)
      have HTK := Lib.hid (List.take_succ_eq_append_getElem hil)
      generalize l[i] = x at *
      have r0 := hcell 0 (by decide)
      have r1 := hcell 1 (by decide)
      have r2 := hcell 2 (by decide)
      simp only [List.getElem?_cons_zero, List.getElem?_cons_succ, Nat.add_zero] at r0 r1 r2
      clear hcell hml
      have hil' : (i : Int) < (l.length : Int) := by omega
      have HC := Lib.hid (fun W => valueC_bare x W (hx))
      clear hx
      go_wp2_with fail
      refine (HC.out _).mono ?_
      rintro e w4 ⟨rfl, hk4⟩
      have HK4 := Lib.hid ((HKR.out.alloc (.cells #[.string x.name, .int .i64 x.num, .int .i64 x.at_] 55)).trans hk4)
      have HRW4 := Lib.hid (((HRW.out.alloc (.cells #[.string x.name, .int .i64 x.num, .int .i64 x.at_] 55)).kp hk4 (fun g f => f.elim)).alloc (.cells #[.string x.name, .int .i64 x.num, .int .i64 (0)] 55))
      have hBz : w.heap.size ≤ (w4.alloc (.cells #[.string x.name, .int .i64 x.num, .int .i64 (0)] 55)).heap.size := by have := HK4.out.size; simp; omega
      have hal : i ≤ 1000000 := by omega
      clear hk4 HC r0 r1 r2
      go_wp2_with (at_builtin; refine wpList_append_rows _ rfl _ _ 50 rfl HRW4.out 0 _ rfl i0 _ 32 Tryz.underlying50 hi0 hz0 hz1 hz2 rfl (Nat.succ_pos 2) rfl w4.heap.size rfl _ (Vl.dv (Vl.bare x)) (Blk.new w4 55 _) rfl (Vl.mem_q _ w.heap.size (Vl.bare x)) (by intro q hq; cases hq) hal (by decide) hBz ?_; intro v5 w5 ho5 hg5 hv5; have HO5 := Lib.hid ho5; have HG5 := Lib.hid hg5; clear ho5 hg5 hv5)
      go_roundg (l.length - (i + 1))
      case measure => omega
      case rel =>
        refine ⟨i + 1, C ++ [], by omega, rfl, by go_num, ?_, (HK4.out.alloc _).grown HG5.out fun q hq hlt => by have := (HRW4.out.own_mem (j := 0) rfl hq).2.1; omega⟩
        have h5 := HO5.out
        rw [HTK.out, List.map_append, List.flatMap_append]
        simpa using h5
    · go_wp2_with fail
      obtain ⟨G, hm, -⟩ := HRW.out.mem
      have hii : i = l.length := by omega
      subst hii
      rw [List.take_length] at hm
      cases hm with
      | cons d v F ds vs G h0 ht =>
      refine bodyPost_ret (v := _) (by simp [results, Tryz.results131, go_sem]; rfl) rfl ⟨_, F, rfl, ?_, HKR.out⟩
      unfold lsD
      rw [List.length_map]
      exact h0
theorem Tryz.info91q : (Tryz.prog.info? 91).map (fun i => (i.zero, i.size, i.bytes)) = some (some (.agg #[.string ⟨#[]⟩, .string ⟨#[]⟩, .string ⟨#[]⟩, .int .i64 0, .int .i64 0, .int .i64 0]), 6, 72) := by kernel_rfl
theorem Rp.mem_q (w : World) (B : Nat) (x : Rp) : MemL w B (Rp.dv x) (Rp.cl x) [] := MemL.plain w B (Rp.cl x) (by
  intro u hu
  unfold Rp.cl at hu
  simp only [List.mem_cons, List.mem_nil_iff, or_false] at hu
  rcases hu with rfl | rfl | rfl | rfl | rfl | rfl
  all_goals rfl)
set_option maxRecDepth 100000 in
set_option maxHeartbeats 2000000 in
theorem eachRp_bare {w : World} {B c : Nat} {l : List Rp} {A : Option Addr} {F : List Nat} (hl : Mem w B (lsD 91 6 Rp.dv l) (.slice A l.length c) F) (hf : Ls Rp.Few l) :
    Calls Tryz.prog 133 #[.slice A l.length c, .func (.func 134) #[.func (.func 49) #[] #[]] #[]] w fun e w' => ∃ v G, e = .returned v ∧ Mem w' w.heap.size (lsD 91 6 Rp.dv (l.map Rp.bare)) v G ∧ Kn w w' := by
  have HL := Lib.hid hl
  have HF := Lib.hid hf
  have hl2 : (l.length : Int) ≤ 128 := by have := hf.len; omega
  clear hl hf
  obtain ⟨i0, hi0, hz0, hz1, hz2⟩ := info_parts Tryz.info91q
  go_enter Tryz.func133, Tryz.ntmps133
  go_wp2_with fail
  go_loopg [5, 10] l.length (fun g v5 v10 wr => ∃ (i : Nat) (C : List Nat), i ≤ l.length ∧ g = l.length - i ∧ v10 = .int .i64 i ∧ Rows_ wr w.heap.size [⟨91, 6, i, ((l.take i).map Rp.bare).flatMap Rp.dv, v5⟩] C ∧ Kn w wr)
  case atStart => exact ⟨0, [], Nat.zero_le _, rfl, rfl, Rows_.nils w w.heap.size [(91, 6)], Kp.refl _ _⟩
  case round =>
    obtain ⟨i, C, hi, rfl, rfl, hrw, hkr⟩ := hrel
    have HKR := Lib.hid hkr
    have HRW := Lib.hid hrw
    clear hkr hrw
    by_cases hil : i < l.length
    · obtain ⟨g1, ys, G1, rfl, hml, hcell⟩ := row_at (f := Rp.dv) (k := 6) (fun _ => rfl) (Mem.stays HL.out fun g hg => HKR.out.block g (Mem.lt HL.out g hg).2 (fun f => f)) hil
      obtain rfl := Rp.cl_q hml
      have hx := HF.out.all _ (List.getElem_mem hil)
      have HTK := Lib.hid (List.take_succ_eq_append_getElem hil)
      generalize l[i] = x at *
      have r0 := hcell 0 (by decide)
      have r1 := hcell 1 (by decide)
      have r2 := hcell 2 (by decide)
      have r3 := hcell 3 (by decide)
      have r4 := hcell 4 (by decide)
      have r5 := hcell 5 (by decide)
      simp only [List.getElem?_cons_zero, List.getElem?_cons_succ, Nat.add_zero] at r0 r1 r2 r3 r4 r5
      clear hcell hml
      have hil' : (i : Int) < (l.length : Int) := by omega
      have HC := Lib.hid (fun W => rpcC_bare x W (hx.1) (hx.2.1) (hx.2.2))
      clear hx
      go_wp2_with fail
      refine (HC.out _).mono ?_
      rintro e w4 ⟨rfl, hk4⟩
      have HK4 := Lib.hid ((HKR.out.alloc (.cells #[.string x.name, .string x.inn, .string x.out, .int .i64 x.at_, .int .i64 x.iat, .int .i64 x.oat] 91)).trans hk4)
      have HRW4 := Lib.hid (((HRW.out.alloc (.cells #[.string x.name, .string x.inn, .string x.out, .int .i64 x.at_, .int .i64 x.iat, .int .i64 x.oat] 91)).kp hk4 (fun g f => f.elim)).alloc (.cells #[.string x.name, .string x.inn, .string x.out, .int .i64 (0), .int .i64 (0), .int .i64 (0)] 91))
      have hBz : w.heap.size ≤ (w4.alloc (.cells #[.string x.name, .string x.inn, .string x.out, .int .i64 (0), .int .i64 (0), .int .i64 (0)] 91)).heap.size := by have := HK4.out.size; simp; omega
      have hal : i ≤ 1000000 := by omega
      clear hk4 HC r0 r1 r2 r3 r4 r5
      go_wp2_with (at_builtin; refine wpList_append_rows _ rfl _ _ 84 rfl HRW4.out 0 _ rfl i0 _ 72 Tryz.underlying84 hi0 hz0 hz1 hz2 rfl (Nat.succ_pos 5) rfl w4.heap.size rfl _ (Rp.dv (Rp.bare x)) (Blk.new w4 91 _) rfl (Rp.mem_q _ w.heap.size (Rp.bare x)) (by intro q hq; cases hq) hal (by decide) hBz ?_; intro v5 w5 ho5 hg5 hv5; have HO5 := Lib.hid ho5; have HG5 := Lib.hid hg5; clear ho5 hg5 hv5)
      go_roundg (l.length - (i + 1))
      case measure => omega
      case rel =>
        refine ⟨i + 1, C ++ [], by omega, rfl, by go_num, ?_, (HK4.out.alloc _).grown HG5.out fun q hq hlt => by have := (HRW4.out.own_mem (j := 0) rfl hq).2.1; omega⟩
        have h5 := HO5.out
        rw [HTK.out, List.map_append, List.flatMap_append]
        simpa using h5
    · go_wp2_with fail
      obtain ⟨G, hm, -⟩ := HRW.out.mem
      have hii : i = l.length := by omega
      subst hii
      rw [List.take_length] at hm
      cases hm with
      | cons d v F ds vs G h0 ht =>
      refine bodyPost_ret (v := _) (by simp [results, Tryz.results133, go_sem]; rfl) rfl ⟨_, F, rfl, ?_, HKR.out⟩
      unfold lsD
      rw [List.length_map]
      exact h0
end
section
open Go.RowKit
set_option linter.unusedVariables false
set_option linter.unusedSimpArgs false

def svcC_bareV (x : Sv) (q r : Nat) (A2 : Option Addr) (c2 : Nat) : Nat → Value → Prop
  | 0, v => v = .pointer (some ⟨q, 0, none⟩)
  | 1, v => v = .string x.name
  | 2, v => v = .string x.name
  | 3, v => v = .func (.func 49) #[] #[]
  | 4, v => v = .pointer (some ⟨q, 1, none⟩)
  | 5, v => v = .int .i64 x.at_
  | 6, v => v = .int .i64 (0)
  | 7, v => v = .pointer (some ⟨q, 2, none⟩)
  | 8, v => v = .slice A2 x.rpcs.length c2
  | 9, v => v = .func (.func 49) #[] #[]
  | 10, v => v = .func (.func 134) #[.func (.func 49) #[] #[]] #[]
  | _, _ => True
def svcC_bareP (x : Sv) (r B : Nat) (w1 : World) : Nat → (Nat → Value) → World → Prop
  | 11, d, W => ∃ G, Mem W B (lsD 91 6 Rp.dv (x.rpcs.map Rp.bare)) (d 11) G
  | 12, d, W => d 12 = .agg #[.string x.name, .int .i64 (0), d 11]
  | 13, d, W => ∃ a2 b2 G2, Blk W r 86 #[.string x.name, .int .i64 (0), .slice a2 x.rpcs.length b2] ∧ Mem W B (lsD 91 6 Rp.dv (x.rpcs.map Rp.bare)) (.slice a2 x.rpcs.length b2) G2 ∧ Kp (fun k => k = r) w1 W
  | 14, _, W => Kn w1 W
  | _, _, _ => True
def svcC_bareF (r : Nat) (i : Nat) (W W' : World) : Prop := if i = 13 then Kp (fun k => k = r) W W' else Kn W W'
set_option maxRecDepth 100000 in
set_option maxHeartbeats 8000000 in
theorem svcC_bare {x : Sv} {w : World} {B0 : Nat} {xs : List Value} {G0 : List Nat} (hx : MemL w B0 (Sv.dv Ty0 x) xs G0) (hfw : x.Few) :
    Calls Tryz.prog 89 #[.func (.func 49) #[] #[], .agg xs.toArray] w fun e w' => ∃ vs G, e = .returned (.agg vs) ∧ MemL w' w.heap.size (Sv.dv Ty0 (Sv.bare x)) vs.toList G ∧ Kn w w' := by
  obtain ⟨A2, c2, F2, rfl, x2⟩ := Sv.q hx
  have HFW := Lib.hid hfw
  have X2 := Lib.hid x2
  clear hx hfw x2
  go_enter Tryz.func89, Tryz.ntmps89
  go_wp2_with fail
  have HB := Lib.hid ((Blk.new w 86 #[.string x.name, .int .i64 x.at_, .slice A2 x.rpcs.length c2]).alloc (.cells #[.string ⟨#[]⟩, .int .i64 0, .slice none 0 0] 86))
  have HR := Lib.hid (show Blk _ (w.heap.size + 1) 86 #[.string ⟨#[]⟩, .int .i64 0, .slice none 0 0] by have := Blk.new (w.alloc (.cells #[.string x.name, .int .i64 x.at_, .slice A2 x.rpcs.length c2] 86)) 86 #[.string ⟨#[]⟩, .int .i64 0, .slice none 0 0]; simpa using this)
  have HK0 := Lib.hid (show Kn w _ from ((Kp.refl (fun _ => False) w).alloc (.cells #[.string x.name, .int .i64 x.at_, .slice A2 x.rpcs.length c2] 86)).alloc (.cells #[.string ⟨#[]⟩, .int .i64 0, .slice none 0 0] 86))
  have HS := Lib.hid (show ((w.alloc (.cells #[.string x.name, .int .i64 x.at_, .slice A2 x.rpcs.length c2] 86)).alloc (.cells #[.string ⟨#[]⟩, .int .i64 0, .slice none 0 0] 86)).heap.size = w.heap.size + 2 by simp)
  obtain ⟨q, hq⟩ : ∃ q, q = w.heap.size := ⟨_, rfl⟩
  have HQ := Lib.hid hq
  simp only [← hq] at HB HR HS ⊢
  clear hq
  generalize World.alloc (World.alloc w _) _ = w1 at *
  have HE2 := Lib.hid (fun (W : World) (hk : Kn w1 W) => eachRp_bare (X2.out.kn (HK0.out.trans hk)) HFW.out.rpcs)
  refine wp_region_flow (by kernel_rfl) 18 1 3 (fun i => match i with | 1 => [14] | 5 => [14] | 8 => [14] | 11 => [14] | 12 => [11] | 13 => [12, 11, 14] | _ => []) (fun _ => []) (fun i => match i with | 13 => [11, 12, 14] | _ => []) (fun i => ([5, 6, 7, 8, 9, 10, 11, 12, 13, 14, 15, 16, 17, 31, 32] : List Nat).getD i 0) (by kernel_rfl) rfl [5, 6, 7, 8, 9, 10, 11, 12, 13, 14, 15, 16, 17, 31, 32] (by kernel_rfl)
    (svcC_bareF (q + 1)) (svcC_bareV x q (q + 1) A2 c2) (svcC_bareP x (q + 1) w1.heap.size w1) ?cong ?st ?t0 ?op ?skip ?done
  case cong =>
    intro i d d' W hi hj h
    have hi : i < 15 := hi
    by_cases i11 : i = 11
    · subst i11
      have e11 := hj 11 (.inl rfl)
      simp only [svcC_bareP] at h ⊢
      rw [← e11]
      exact h
    by_cases i12 : i = 12
    · subst i12
      have e12 := hj 12 (.inl rfl)
      have e11 := hj 11 (.inr (by kernel_rfl))
      simp only [svcC_bareP] at h ⊢
      rw [← e12, ← e11]
      exact h
    obtain rfl | rfl | rfl | rfl | rfl | rfl | rfl | rfl | rfl | rfl | rfl | rfl | rfl : i = 0 ∨ i = 1 ∨ i = 2 ∨ i = 3 ∨ i = 4 ∨ i = 5 ∨ i = 6 ∨ i = 7 ∨ i = 8 ∨ i = 9 ∨ i = 10 ∨ i = 13 ∨ i = 14 := by omega
    all_goals exact h
  case st =>
    intro i j d W W' hi hj hij hsp hr h hF
    have hi : i < 14 := hi
    have hj : j < 15 := hj
    unfold svcC_bareF at hF
    by_cases hs : i = 13
    · rw [if_pos hs] at hF
      subst hs
      by_cases hjs : j = 11 ∨ j = 12 ∨ j = 14
      · exfalso
        rcases hjs with rfl | rfl | rfl
        all_goals exact hsp (by simp)
      · obtain rfl | rfl | rfl | rfl | rfl | rfl | rfl | rfl | rfl | rfl | rfl : j = 0 ∨ j = 1 ∨ j = 2 ∨ j = 3 ∨ j = 4 ∨ j = 5 ∨ j = 6 ∨ j = 7 ∨ j = 8 ∨ j = 9 ∨ j = 10 := by omega
        all_goals trivial
    · rw [if_neg hs] at hF
      by_cases hje : j = 11
      · subst hje
        exact h.imp fun G hm => Mem.kn hm hF
      by_cases hjb : j = 12
      · subst hjb; exact h
      by_cases hjn : j = 14
      · subst hjn; exact Kp.trans h hF
      by_cases hjs : j = 13
      · exfalso
        subst hjs
        obtain rfl | rfl | rfl | rfl | rfl | rfl | rfl | rfl | rfl | rfl | rfl | rfl | rfl : i = 0 ∨ i = 1 ∨ i = 2 ∨ i = 3 ∨ i = 4 ∨ i = 5 ∨ i = 6 ∨ i = 7 ∨ i = 8 ∨ i = 9 ∨ i = 10 ∨ i = 11 ∨ i = 12 := by omega
        all_goals exact absurd (show reach _ 3 _ _ = true by kernel_rfl) (by rw [hr]; decide)
      · obtain rfl | rfl | rfl | rfl | rfl | rfl | rfl | rfl | rfl | rfl | rfl : j = 0 ∨ j = 1 ∨ j = 2 ∨ j = 3 ∨ j = 4 ∨ j = 5 ∨ j = 6 ∨ j = 7 ∨ j = 8 ∨ j = 9 ∨ j = 10 := by omega
        all_goals trivial
  case t0 =>
    intro j d hj
    obtain rfl : j = 0 := by omega
    exact Kp.drew (Kp.refl _ _)
  case op =>
    intro i o ho u W hdep hV _ _ K hK
    simp only [over, List.foldl_cons, List.foldl_nil, List.setIfInBounds_toArray, List.set_cons_zero, List.set_cons_succ, List.set_nil, List.getD_cons_zero, List.getD_cons_succ, Array.getD_eq_getD_getElem?, List.getElem?_toArray] at hK hdep hV ⊢
    match i, ho with
    | 0, ho =>
      simp only [List.getElem?_toArray, List.getElem?_cons_zero, List.getElem?_cons_succ, Option.some.injEq] at ho
      subst ho
      go_wp2
      exact hK _ _ rfl trivial (Kp.refl _ _)
    | 1, ho =>
      simp only [List.getElem?_toArray, List.getElem?_cons_zero, List.getElem?_cons_succ, Option.some.injEq] at ho
      subst ho
      have v0 : u 5 = .pointer (some ⟨q, 0, none⟩) := hV 0 (by kernel_rfl)
      obtain hk := hdep 14 (by simp)
      have hc := Blk.cell (HB.out.kp hk (fun f => f)) 0
      simp only [List.getElem?_toArray, List.getElem?_cons_zero, List.getElem?_cons_succ] at hc
      simp only [v0] at hK ⊢
      go_wp2
      exact hK _ _ rfl trivial (Kp.refl _ _)
    | 2, ho =>
      simp only [List.getElem?_toArray, List.getElem?_cons_zero, List.getElem?_cons_succ, Option.some.injEq] at ho
      subst ho
      have v1 : u 6 = .string x.name := hV 1 (by kernel_rfl)
      simp only [v1] at hK ⊢
      go_wp2_with fail
      refine (cloneQ_any _ _ HFW.out.name).mono ?_
      rintro e w2 ⟨rfl, hk2⟩
      exact hK _ _ rfl trivial hk2
    | 3, ho =>
      simp only [List.getElem?_toArray, List.getElem?_cons_zero, List.getElem?_cons_succ, Option.some.injEq] at ho
      subst ho
      go_wp2
      exact hK _ _ rfl trivial (Kp.refl _ _)
    | 4, ho =>
      simp only [List.getElem?_toArray, List.getElem?_cons_zero, List.getElem?_cons_succ, Option.some.injEq] at ho
      subst ho
      go_wp2
      exact hK _ _ rfl trivial (Kp.refl _ _)
    | 5, ho =>
      simp only [List.getElem?_toArray, List.getElem?_cons_zero, List.getElem?_cons_succ, Option.some.injEq] at ho
      subst ho
      have v4 : u 9 = .pointer (some ⟨q, 1, none⟩) := hV 4 (by kernel_rfl)
      obtain hk := hdep 14 (by simp)
      have hc := Blk.cell (HB.out.kp hk (fun f => f)) 1
      simp only [List.getElem?_toArray, List.getElem?_cons_zero, List.getElem?_cons_succ] at hc
      simp only [v4] at hK ⊢
      go_wp2
      exact hK _ _ rfl trivial (Kp.refl _ _)
    | 6, ho =>
      simp only [List.getElem?_toArray, List.getElem?_cons_zero, List.getElem?_cons_succ, Option.some.injEq] at ho
      subst ho
      have v3 : u 8 = .func (.func 49) #[] #[] := hV 3 (by kernel_rfl)
      have v5 : u 10 = .int .i64 x.at_ := hV 5 (by kernel_rfl)
      simp only [v3, v5] at hK ⊢
      go_wp2_with fail
      refine (place_bare _ _).mono ?_
      rintro e w2 ⟨rfl, hk2⟩
      exact hK _ _ rfl trivial hk2
    | 7, ho =>
      simp only [List.getElem?_toArray, List.getElem?_cons_zero, List.getElem?_cons_succ, Option.some.injEq] at ho
      subst ho
      go_wp2
      exact hK _ _ rfl trivial (Kp.refl _ _)
    | 8, ho =>
      simp only [List.getElem?_toArray, List.getElem?_cons_zero, List.getElem?_cons_succ, Option.some.injEq] at ho
      subst ho
      have v7 : u 12 = .pointer (some ⟨q, 2, none⟩) := hV 7 (by kernel_rfl)
      obtain hk := hdep 14 (by simp)
      have hc := Blk.cell (HB.out.kp hk (fun f => f)) 2
      simp only [List.getElem?_toArray, List.getElem?_cons_zero, List.getElem?_cons_succ] at hc
      simp only [v7] at hK ⊢
      go_wp2
      exact hK _ _ rfl trivial (Kp.refl _ _)
    | 9, ho =>
      simp only [List.getElem?_toArray, List.getElem?_cons_zero, List.getElem?_cons_succ, Option.some.injEq] at ho
      subst ho
      go_wp2
      exact hK _ _ rfl trivial (Kp.refl _ _)
    | 10, ho =>
      simp only [List.getElem?_toArray, List.getElem?_cons_zero, List.getElem?_cons_succ, Option.some.injEq] at ho
      subst ho
      have v9 : u 14 = .func (.func 49) #[] #[] := hV 9 (by kernel_rfl)
      simp only [v9] at hK ⊢
      go_wp2
      exact hK _ _ rfl trivial (Kp.refl _ _)
    | 11, ho =>
      simp only [List.getElem?_toArray, List.getElem?_cons_zero, List.getElem?_cons_succ, Option.some.injEq] at ho
      subst ho
      have v8 : u 13 = .slice A2 x.rpcs.length c2 := hV 8 (by kernel_rfl)
      have v10 : u 15 = .func (.func 134) #[.func (.func 49) #[] #[]] #[] := hV 10 (by kernel_rfl)
      obtain hk := hdep 14 (by simp)
      simp only [v8, v10] at hK ⊢
      go_wp2_with fail
      refine (HE2.out W hk).mono ?_
      rintro e w2 ⟨v, G, rfl, hm, hk2⟩
      exact hK _ _ trivial ⟨G, Mem.base hk.size hm⟩ hk2
    | 12, ho =>
      simp only [List.getElem?_toArray, List.getElem?_cons_zero, List.getElem?_cons_succ, Option.some.injEq] at ho
      subst ho
      have v2 : u 7 = .string x.name := hV 2 (by kernel_rfl)
      have v6 : u 11 = .int .i64 (0) := hV 6 (by kernel_rfl)
      obtain ⟨G2, m2⟩ := hdep 11 (by simp)
      obtain ⟨a2, b2, s2, -⟩ := m2.sl_q
      rw [List.length_map] at s2
      replace s2 : u 16 = .slice a2 x.rpcs.length b2 := s2
      simp only [v2, v6] at hK ⊢
      simp only [s2] at hK ⊢
      go_wp2
      refine hK _ _ trivial ?_ (Kp.refl _ _)
      show Value.agg #[.string x.name, .int .i64 (0), .slice a2 x.rpcs.length b2] = Value.agg #[.string x.name, .int .i64 (0), u 16]
      rw [s2]
    | 13, ho =>
      simp only [List.getElem?_toArray, List.getElem?_cons_zero, List.getElem?_cons_succ, Option.some.injEq] at ho
      subst ho
      obtain hbd := hdep 12 (by simp)
      obtain ⟨G2, m2⟩ := hdep 11 (by simp)
      obtain hk := hdep 14 (by simp)
      obtain ⟨a2, b2, s2, -⟩ := m2.sl_q
      rw [List.length_map] at s2
      replace s2 : u 16 = .slice a2 x.rpcs.length b2 := s2
      replace hbd : u 17 = .agg #[.string x.name, .int .i64 (0), u 16] := hbd
      rw [s2] at hbd
      have hr1 := HR.out.kp hk (fun f => f)
      have rc0 := Blk.cell hr1 0
      have rf0 := Blk.frozen hr1 0
      have rc1 := Blk.cell hr1 1
      have rf1 := Blk.frozen hr1 1
      have rc2 := Blk.cell hr1 2
      have rf2 := Blk.frozen hr1 2
      simp only [List.getElem?_toArray, List.getElem?_cons_zero, List.getElem?_cons_succ] at rc0 rc1 rc2
      simp only [hbd] at hK ⊢
      have hBW := HS.out
      have S2 := Lib.hid s2
      clear s2
      go_wp2
      have hfr : Kp (fun k => k = q + 1) W _ := (Kp.setCell (p := ⟨q + 1, 2, none⟩) (Kp.setCell (p := ⟨q + 1, 1, none⟩) (Kp.setCell (p := ⟨q + 1, 0, none⟩) (Kp.refl (fun k => k = q + 1) W) (fun _ => rfl) (.string x.name)) (fun _ => rfl) (.int .i64 (0))) (fun _ => rfl) (.slice a2 x.rpcs.length b2))
      exact hK undef _ trivial ⟨a2, b2, G2, (Blk.set_ (Blk.set_ (Blk.set_ hr1 0 (.string x.name)) 1 (.int .i64 (0))) 2 (.slice a2 x.rpcs.length b2)), Mem.stays (S2.out ▸ m2) (fun g hg => hfr.block g (Mem.lt m2 g hg).2 (by have := (Mem.lt m2 g hg).1; omega)), (Kp.trans (Kp.mono (T := fun k => k = q + 1) hk (fun _ f _ => f.elim)) hfr)⟩ hfr
    | k + 14, ho => simp at ho
  case skip =>
    intro i o g b ho hg
    rw [no_guard (by kernel_rfl) ho] at hg
    cases hg
  case done =>
    intro u W hV hP
    obtain ⟨a2, b2, G2, hb, m2, hk⟩ := hP 13 (by decide) (by decide)
    clear hV hP
    have f0 := Blk.cell hb 0
    have f1 := Blk.cell hb 1
    have f2 := Blk.cell hb 2
    simp only [List.getElem?_toArray, List.getElem?_cons_zero, List.getElem?_cons_succ] at f0 f1 f2
    simp only [over, List.foldl_cons, List.foldl_nil, List.setIfInBounds_toArray, List.set_cons_zero, List.set_cons_succ, List.set_nil, List.getD_cons_zero, List.getD_cons_succ, Array.getD_eq_getD_getElem?, List.getElem?_toArray]
    go_wp2_with fail
    have hqw := HQ.out
    have hsw := HS.out
    refine bodyPost_ret (v := .agg #[.string x.name, .int .i64 (0), .slice a2 x.rpcs.length b2]) (by simp [results, Tryz.results89, go_sem, f0, f1, f2]) rfl ⟨#[.string x.name, .int .i64 (0), .slice a2 x.rpcs.length b2], ([] ++ ([] ++ (G2 ++ []))), rfl, ?_, Kp.trans' HK0.out hk (fun i e hi => by omega)⟩
    exact .cons _ _ [] _ _ _ (.at_ _ rfl) (.cons _ _ [] _ _ _ (.at_ _ rfl) (.cons _ _ _ _ _ _ (Mem.base (by omega) m2) (.nil)))
def enumC_bareV (x : En) (q r : Nat) (A2 A3 A4 : Option Addr) (c2 c3 c4 : Nat) : Nat → Value → Prop
  | 0, v => v = .pointer (some ⟨q, 0, none⟩)
  | 1, v => v = .string x.name
  | 2, v => v = .string x.name
  | 3, v => v = .func (.func 49) #[] #[]
  | 4, v => v = .pointer (some ⟨q, 1, none⟩)
  | 5, v => v = .int .i64 x.at_
  | 6, v => v = .int .i64 (0)
  | 7, v => v = .pointer (some ⟨q, 2, none⟩)
  | 8, v => v = .slice A2 x.vals.length c2
  | 9, v => v = .func (.func 49) #[] #[]
  | 10, v => v = .func (.func 132) #[.func (.func 49) #[] #[]] #[]
  | 12, v => v = .pointer (some ⟨q, 3, none⟩)
  | 13, v => v = .slice A3 x.rngs.length c3
  | 14, v => v = .func (.func 49) #[] #[]
  | 15, v => v = .func (.func 130) #[.func (.func 49) #[] #[]] #[]
  | 17, v => v = .pointer (some ⟨q, 4, none⟩)
  | 18, v => v = .slice A4 x.nams.length c4
  | 19, v => v = .func (.func 49) #[] #[]
  | 20, v => v = .func (.func 128) #[.func (.func 49) #[] #[]] #[]
  | _, _ => True
def enumC_bareP (x : En) (r B : Nat) (w1 : World) : Nat → (Nat → Value) → World → Prop
  | 11, d, W => ∃ G, Mem W B (lsD 55 3 Vl.dv (x.vals.map Vl.bare)) (d 11) G
  | 16, d, W => ∃ G, Mem W B (lsD 126 3 Sp.dv (x.rngs.map Sp.bare)) (d 16) G
  | 21, d, W => ∃ G, Mem W B (lsD 99 2 Tx.dv (x.nams.map Tx.bare)) (d 21) G
  | 22, d, W => d 22 = .agg #[.string x.name, .int .i64 (0), d 11, d 16, d 21]
  | 23, d, W => ∃ a2 b2 G2 a3 b3 G3 a4 b4 G4, Blk W r 52 #[.string x.name, .int .i64 (0), .slice a2 x.vals.length b2, .slice a3 x.rngs.length b3, .slice a4 x.nams.length b4] ∧ Mem W B (lsD 55 3 Vl.dv (x.vals.map Vl.bare)) (.slice a2 x.vals.length b2) G2 ∧ Mem W B (lsD 126 3 Sp.dv (x.rngs.map Sp.bare)) (.slice a3 x.rngs.length b3) G3 ∧ Mem W B (lsD 99 2 Tx.dv (x.nams.map Tx.bare)) (.slice a4 x.nams.length b4) G4 ∧ Kp (fun k => k = r) w1 W
  | 24, _, W => Kn w1 W
  | _, _, _ => True
def enumC_bareF (r : Nat) (i : Nat) (W W' : World) : Prop := if i = 23 then Kp (fun k => k = r) W W' else Kn W W'
set_option maxRecDepth 100000 in
set_option maxHeartbeats 8000000 in
theorem enumC_bare {x : En} {w : World} {B0 : Nat} {xs : List Value} {G0 : List Nat} (hx : MemL w B0 (En.dv Ty0 x) xs G0) (hfw : x.Few) :
    Calls Tryz.prog 87 #[.func (.func 49) #[] #[], .agg xs.toArray] w fun e w' => ∃ vs G, e = .returned (.agg vs) ∧ MemL w' w.heap.size (En.dv Ty0 (En.bare x)) vs.toList G ∧ Kn w w' := by
  obtain ⟨A2, c2, F2, A3, c3, F3, A4, c4, F4, rfl, x2, x3, x4⟩ := En.q hx
  have HFW := Lib.hid hfw
  have X2 := Lib.hid x2
  have X3 := Lib.hid x3
  have X4 := Lib.hid x4
  clear hx hfw x2 x3 x4
  go_enter Tryz.func87, Tryz.ntmps87
  go_wp2_with fail
  have HB := Lib.hid ((Blk.new w 52 #[.string x.name, .int .i64 x.at_, .slice A2 x.vals.length c2, .slice A3 x.rngs.length c3, .slice A4 x.nams.length c4]).alloc (.cells #[.string ⟨#[]⟩, .int .i64 0, .slice none 0 0, .slice none 0 0, .slice none 0 0] 52))
  have HR := Lib.hid (show Blk _ (w.heap.size + 1) 52 #[.string ⟨#[]⟩, .int .i64 0, .slice none 0 0, .slice none 0 0, .slice none 0 0] by have := Blk.new (w.alloc (.cells #[.string x.name, .int .i64 x.at_, .slice A2 x.vals.length c2, .slice A3 x.rngs.length c3, .slice A4 x.nams.length c4] 52)) 52 #[.string ⟨#[]⟩, .int .i64 0, .slice none 0 0, .slice none 0 0, .slice none 0 0]; simpa using this)
  have HK0 := Lib.hid (show Kn w _ from ((Kp.refl (fun _ => False) w).alloc (.cells #[.string x.name, .int .i64 x.at_, .slice A2 x.vals.length c2, .slice A3 x.rngs.length c3, .slice A4 x.nams.length c4] 52)).alloc (.cells #[.string ⟨#[]⟩, .int .i64 0, .slice none 0 0, .slice none 0 0, .slice none 0 0] 52))
  have HS := Lib.hid (show ((w.alloc (.cells #[.string x.name, .int .i64 x.at_, .slice A2 x.vals.length c2, .slice A3 x.rngs.length c3, .slice A4 x.nams.length c4] 52)).alloc (.cells #[.string ⟨#[]⟩, .int .i64 0, .slice none 0 0, .slice none 0 0, .slice none 0 0] 52)).heap.size = w.heap.size + 2 by simp)
  obtain ⟨q, hq⟩ : ∃ q, q = w.heap.size := ⟨_, rfl⟩
  have HQ := Lib.hid hq
  simp only [← hq] at HB HR HS ⊢
  clear hq
  generalize World.alloc (World.alloc w _) _ = w1 at *
  have HE2 := Lib.hid (fun (W : World) (hk : Kn w1 W) => eachVl_bare (X2.out.kn (HK0.out.trans hk)) HFW.out.vals)
  have HE3 := Lib.hid (fun (W : World) (hk : Kn w1 W) => eachSp_bare (X3.out.kn (HK0.out.trans hk)) HFW.out.rngs)
  have HE4 := Lib.hid (fun (W : World) (hk : Kn w1 W) => eachTx_bare (X4.out.kn (HK0.out.trans hk)) HFW.out.nams)
  refine wp_region_flow (by kernel_rfl) 28 1 3 (fun i => match i with | 1 => [24] | 5 => [24] | 8 => [24] | 11 => [24] | 13 => [24] | 16 => [24] | 18 => [24] | 21 => [24] | 22 => [11, 16, 21] | 23 => [22, 11, 16, 21, 24] | _ => []) (fun _ => []) (fun i => match i with | 23 => [11, 16, 21, 22, 24] | _ => []) (fun i => ([5, 6, 7, 8, 9, 10, 11, 12, 13, 14, 15, 16, 17, 18, 19, 20, 21, 22, 23, 24, 25, 26, 27, 51, 52] : List Nat).getD i 0) (by kernel_rfl) rfl [5, 6, 7, 8, 9, 10, 11, 12, 13, 14, 15, 16, 17, 18, 19, 20, 21, 22, 23, 24, 25, 26, 27, 51, 52] (by kernel_rfl)
    (enumC_bareF (q + 1)) (enumC_bareV x q (q + 1) A2 A3 A4 c2 c3 c4) (enumC_bareP x (q + 1) w1.heap.size w1) ?cong ?st ?t0 ?op ?skip ?done
  case cong =>
    intro i d d' W hi hj h
    have hi : i < 25 := hi
    by_cases i11 : i = 11
    · subst i11
      have e11 := hj 11 (.inl rfl)
      simp only [enumC_bareP] at h ⊢
      rw [← e11]
      exact h
    by_cases i16 : i = 16
    · subst i16
      have e16 := hj 16 (.inl rfl)
      simp only [enumC_bareP] at h ⊢
      rw [← e16]
      exact h
    by_cases i21 : i = 21
    · subst i21
      have e21 := hj 21 (.inl rfl)
      simp only [enumC_bareP] at h ⊢
      rw [← e21]
      exact h
    by_cases i22 : i = 22
    · subst i22
      have e22 := hj 22 (.inl rfl)
      have e11 := hj 11 (.inr (by kernel_rfl))
      have e16 := hj 16 (.inr (by kernel_rfl))
      have e21 := hj 21 (.inr (by kernel_rfl))
      simp only [enumC_bareP] at h ⊢
      rw [← e22, ← e11, ← e16, ← e21]
      exact h
    obtain rfl | rfl | rfl | rfl | rfl | rfl | rfl | rfl | rfl | rfl | rfl | rfl | rfl | rfl | rfl | rfl | rfl | rfl | rfl | rfl | rfl : i = 0 ∨ i = 1 ∨ i = 2 ∨ i = 3 ∨ i = 4 ∨ i = 5 ∨ i = 6 ∨ i = 7 ∨ i = 8 ∨ i = 9 ∨ i = 10 ∨ i = 12 ∨ i = 13 ∨ i = 14 ∨ i = 15 ∨ i = 17 ∨ i = 18 ∨ i = 19 ∨ i = 20 ∨ i = 23 ∨ i = 24 := by omega
    all_goals exact h
  case st =>
    intro i j d W W' hi hj hij hsp hr h hF
    have hi : i < 24 := hi
    have hj : j < 25 := hj
    unfold enumC_bareF at hF
    by_cases hs : i = 23
    · rw [if_pos hs] at hF
      subst hs
      by_cases hjs : j = 11 ∨ j = 16 ∨ j = 21 ∨ j = 22 ∨ j = 24
      · exfalso
        rcases hjs with rfl | rfl | rfl | rfl | rfl
        all_goals exact hsp (by simp)
      · obtain rfl | rfl | rfl | rfl | rfl | rfl | rfl | rfl | rfl | rfl | rfl | rfl | rfl | rfl | rfl | rfl | rfl | rfl | rfl : j = 0 ∨ j = 1 ∨ j = 2 ∨ j = 3 ∨ j = 4 ∨ j = 5 ∨ j = 6 ∨ j = 7 ∨ j = 8 ∨ j = 9 ∨ j = 10 ∨ j = 12 ∨ j = 13 ∨ j = 14 ∨ j = 15 ∨ j = 17 ∨ j = 18 ∨ j = 19 ∨ j = 20 := by omega
        all_goals trivial
    · rw [if_neg hs] at hF
      by_cases hje : j = 11 ∨ j = 16 ∨ j = 21
      · rcases hje with rfl | rfl | rfl
        all_goals exact h.imp fun G hm => Mem.kn hm hF
      by_cases hjb : j = 22
      · subst hjb; exact h
      by_cases hjn : j = 24
      · subst hjn; exact Kp.trans h hF
      by_cases hjs : j = 23
      · exfalso
        subst hjs
        obtain rfl | rfl | rfl | rfl | rfl | rfl | rfl | rfl | rfl | rfl | rfl | rfl | rfl | rfl | rfl | rfl | rfl | rfl | rfl | rfl | rfl | rfl | rfl : i = 0 ∨ i = 1 ∨ i = 2 ∨ i = 3 ∨ i = 4 ∨ i = 5 ∨ i = 6 ∨ i = 7 ∨ i = 8 ∨ i = 9 ∨ i = 10 ∨ i = 11 ∨ i = 12 ∨ i = 13 ∨ i = 14 ∨ i = 15 ∨ i = 16 ∨ i = 17 ∨ i = 18 ∨ i = 19 ∨ i = 20 ∨ i = 21 ∨ i = 22 := by omega
        all_goals exact absurd (show reach _ 3 _ _ = true by kernel_rfl) (by rw [hr]; decide)
      · obtain rfl | rfl | rfl | rfl | rfl | rfl | rfl | rfl | rfl | rfl | rfl | rfl | rfl | rfl | rfl | rfl | rfl | rfl | rfl : j = 0 ∨ j = 1 ∨ j = 2 ∨ j = 3 ∨ j = 4 ∨ j = 5 ∨ j = 6 ∨ j = 7 ∨ j = 8 ∨ j = 9 ∨ j = 10 ∨ j = 12 ∨ j = 13 ∨ j = 14 ∨ j = 15 ∨ j = 17 ∨ j = 18 ∨ j = 19 ∨ j = 20 := by omega
        all_goals trivial
  case t0 =>
    intro j d hj
    obtain rfl : j = 0 := by omega
    exact Kp.drew (Kp.refl _ _)
  case op =>
    intro i o ho u W hdep hV _ _ K hK
    simp only [over, List.foldl_cons, List.foldl_nil, List.setIfInBounds_toArray, List.set_cons_zero, List.set_cons_succ, List.set_nil, List.getD_cons_zero, List.getD_cons_succ, Array.getD_eq_getD_getElem?, List.getElem?_toArray] at hK hdep hV ⊢
    match i, ho with
    | 0, ho =>
      simp only [List.getElem?_toArray, List.getElem?_cons_zero, List.getElem?_cons_succ, Option.some.injEq] at ho
      subst ho
      go_wp2
      exact hK _ _ rfl trivial (Kp.refl _ _)
    | 1, ho =>
      simp only [List.getElem?_toArray, List.getElem?_cons_zero, List.getElem?_cons_succ, Option.some.injEq] at ho
      subst ho
      have v0 : u 5 = .pointer (some ⟨q, 0, none⟩) := hV 0 (by kernel_rfl)
      obtain hk := hdep 24 (by simp)
      have hc := Blk.cell (HB.out.kp hk (fun f => f)) 0
      simp only [List.getElem?_toArray, List.getElem?_cons_zero, List.getElem?_cons_succ] at hc
      simp only [v0] at hK ⊢
      go_wp2
      exact hK _ _ rfl trivial (Kp.refl _ _)
    | 2, ho =>
      simp only [List.getElem?_toArray, List.getElem?_cons_zero, List.getElem?_cons_succ, Option.some.injEq] at ho
      subst ho
      have v1 : u 6 = .string x.name := hV 1 (by kernel_rfl)
      simp only [v1] at hK ⊢
      go_wp2_with fail
      refine (cloneQ_any _ _ HFW.out.name).mono ?_
      rintro e w2 ⟨rfl, hk2⟩
      exact hK _ _ rfl trivial hk2
    | 3, ho =>
      simp only [List.getElem?_toArray, List.getElem?_cons_zero, List.getElem?_cons_succ, Option.some.injEq] at ho
      subst ho
      go_wp2
      exact hK _ _ rfl trivial (Kp.refl _ _)
    | 4, ho =>
      simp only [List.getElem?_toArray, List.getElem?_cons_zero, List.getElem?_cons_succ, Option.some.injEq] at ho
      subst ho
      go_wp2
      exact hK _ _ rfl trivial (Kp.refl _ _)
    | 5, ho =>
      simp only [List.getElem?_toArray, List.getElem?_cons_zero, List.getElem?_cons_succ, Option.some.injEq] at ho
      subst ho
      have v4 : u 9 = .pointer (some ⟨q, 1, none⟩) := hV 4 (by kernel_rfl)
      obtain hk := hdep 24 (by simp)
      have hc := Blk.cell (HB.out.kp hk (fun f => f)) 1
      simp only [List.getElem?_toArray, List.getElem?_cons_zero, List.getElem?_cons_succ] at hc
      simp only [v4] at hK ⊢
      go_wp2
      exact hK _ _ rfl trivial (Kp.refl _ _)
    | 6, ho =>
      simp only [List.getElem?_toArray, List.getElem?_cons_zero, List.getElem?_cons_succ, Option.some.injEq] at ho
      subst ho
      have v3 : u 8 = .func (.func 49) #[] #[] := hV 3 (by kernel_rfl)
      have v5 : u 10 = .int .i64 x.at_ := hV 5 (by kernel_rfl)
      simp only [v3, v5] at hK ⊢
      go_wp2_with fail
      refine (place_bare _ _).mono ?_
      rintro e w2 ⟨rfl, hk2⟩
      exact hK _ _ rfl trivial hk2
    | 7, ho =>
      simp only [List.getElem?_toArray, List.getElem?_cons_zero, List.getElem?_cons_succ, Option.some.injEq] at ho
      subst ho
      go_wp2
      exact hK _ _ rfl trivial (Kp.refl _ _)
    | 8, ho =>
      simp only [List.getElem?_toArray, List.getElem?_cons_zero, List.getElem?_cons_succ, Option.some.injEq] at ho
      subst ho
      have v7 : u 12 = .pointer (some ⟨q, 2, none⟩) := hV 7 (by kernel_rfl)
      obtain hk := hdep 24 (by simp)
      have hc := Blk.cell (HB.out.kp hk (fun f => f)) 2
      simp only [List.getElem?_toArray, List.getElem?_cons_zero, List.getElem?_cons_succ] at hc
      simp only [v7] at hK ⊢
      go_wp2
      exact hK _ _ rfl trivial (Kp.refl _ _)
    | 9, ho =>
      simp only [List.getElem?_toArray, List.getElem?_cons_zero, List.getElem?_cons_succ, Option.some.injEq] at ho
      subst ho
      go_wp2
      exact hK _ _ rfl trivial (Kp.refl _ _)
    | 10, ho =>
      simp only [List.getElem?_toArray, List.getElem?_cons_zero, List.getElem?_cons_succ, Option.some.injEq] at ho
      subst ho
      have v9 : u 14 = .func (.func 49) #[] #[] := hV 9 (by kernel_rfl)
      simp only [v9] at hK ⊢
      go_wp2
      exact hK _ _ rfl trivial (Kp.refl _ _)
    | 11, ho =>
      simp only [List.getElem?_toArray, List.getElem?_cons_zero, List.getElem?_cons_succ, Option.some.injEq] at ho
      subst ho
      have v8 : u 13 = .slice A2 x.vals.length c2 := hV 8 (by kernel_rfl)
      have v10 : u 15 = .func (.func 132) #[.func (.func 49) #[] #[]] #[] := hV 10 (by kernel_rfl)
      obtain hk := hdep 24 (by simp)
      simp only [v8, v10] at hK ⊢
      go_wp2_with fail
      refine (HE2.out W hk).mono ?_
      rintro e w2 ⟨v, G, rfl, hm, hk2⟩
      exact hK _ _ trivial ⟨G, Mem.base hk.size hm⟩ hk2
    | 12, ho =>
      simp only [List.getElem?_toArray, List.getElem?_cons_zero, List.getElem?_cons_succ, Option.some.injEq] at ho
      subst ho
      go_wp2
      exact hK _ _ rfl trivial (Kp.refl _ _)
    | 13, ho =>
      simp only [List.getElem?_toArray, List.getElem?_cons_zero, List.getElem?_cons_succ, Option.some.injEq] at ho
      subst ho
      have v12 : u 17 = .pointer (some ⟨q, 3, none⟩) := hV 12 (by kernel_rfl)
      obtain hk := hdep 24 (by simp)
      have hc := Blk.cell (HB.out.kp hk (fun f => f)) 3
      simp only [List.getElem?_toArray, List.getElem?_cons_zero, List.getElem?_cons_succ] at hc
      simp only [v12] at hK ⊢
      go_wp2
      exact hK _ _ rfl trivial (Kp.refl _ _)
    | 14, ho =>
      simp only [List.getElem?_toArray, List.getElem?_cons_zero, List.getElem?_cons_succ, Option.some.injEq] at ho
      subst ho
      go_wp2
      exact hK _ _ rfl trivial (Kp.refl _ _)
    | 15, ho =>
      simp only [List.getElem?_toArray, List.getElem?_cons_zero, List.getElem?_cons_succ, Option.some.injEq] at ho
      subst ho
      have v14 : u 19 = .func (.func 49) #[] #[] := hV 14 (by kernel_rfl)
      simp only [v14] at hK ⊢
      go_wp2
      exact hK _ _ rfl trivial (Kp.refl _ _)
    | 16, ho =>
      simp only [List.getElem?_toArray, List.getElem?_cons_zero, List.getElem?_cons_succ, Option.some.injEq] at ho
      subst ho
      have v13 : u 18 = .slice A3 x.rngs.length c3 := hV 13 (by kernel_rfl)
      have v15 : u 20 = .func (.func 130) #[.func (.func 49) #[] #[]] #[] := hV 15 (by kernel_rfl)
      obtain hk := hdep 24 (by simp)
      simp only [v13, v15] at hK ⊢
      go_wp2_with fail
      refine (HE3.out W hk).mono ?_
      rintro e w2 ⟨v, G, rfl, hm, hk2⟩
      exact hK _ _ trivial ⟨G, Mem.base hk.size hm⟩ hk2
    | 17, ho =>
      simp only [List.getElem?_toArray, List.getElem?_cons_zero, List.getElem?_cons_succ, Option.some.injEq] at ho
      subst ho
      go_wp2
      exact hK _ _ rfl trivial (Kp.refl _ _)
    | 18, ho =>
      simp only [List.getElem?_toArray, List.getElem?_cons_zero, List.getElem?_cons_succ, Option.some.injEq] at ho
      subst ho
      have v17 : u 22 = .pointer (some ⟨q, 4, none⟩) := hV 17 (by kernel_rfl)
      obtain hk := hdep 24 (by simp)
      have hc := Blk.cell (HB.out.kp hk (fun f => f)) 4
      simp only [List.getElem?_toArray, List.getElem?_cons_zero, List.getElem?_cons_succ] at hc
      simp only [v17] at hK ⊢
      go_wp2
      exact hK _ _ rfl trivial (Kp.refl _ _)
    | 19, ho =>
      simp only [List.getElem?_toArray, List.getElem?_cons_zero, List.getElem?_cons_succ, Option.some.injEq] at ho
      subst ho
      go_wp2
      exact hK _ _ rfl trivial (Kp.refl _ _)
    | 20, ho =>
      simp only [List.getElem?_toArray, List.getElem?_cons_zero, List.getElem?_cons_succ, Option.some.injEq] at ho
      subst ho
      have v19 : u 24 = .func (.func 49) #[] #[] := hV 19 (by kernel_rfl)
      simp only [v19] at hK ⊢
      go_wp2
      exact hK _ _ rfl trivial (Kp.refl _ _)
    | 21, ho =>
      simp only [List.getElem?_toArray, List.getElem?_cons_zero, List.getElem?_cons_succ, Option.some.injEq] at ho
      subst ho
      have v18 : u 23 = .slice A4 x.nams.length c4 := hV 18 (by kernel_rfl)
      have v20 : u 25 = .func (.func 128) #[.func (.func 49) #[] #[]] #[] := hV 20 (by kernel_rfl)
      obtain hk := hdep 24 (by simp)
      simp only [v18, v20] at hK ⊢
      go_wp2_with fail
      refine (HE4.out W hk).mono ?_
      rintro e w2 ⟨v, G, rfl, hm, hk2⟩
      exact hK _ _ trivial ⟨G, Mem.base hk.size hm⟩ hk2
    | 22, ho =>
      simp only [List.getElem?_toArray, List.getElem?_cons_zero, List.getElem?_cons_succ, Option.some.injEq] at ho
      subst ho
      have v2 : u 7 = .string x.name := hV 2 (by kernel_rfl)
      have v6 : u 11 = .int .i64 (0) := hV 6 (by kernel_rfl)
      obtain ⟨G2, m2⟩ := hdep 11 (by simp)
      obtain ⟨a2, b2, s2, -⟩ := m2.sl_q
      rw [List.length_map] at s2
      replace s2 : u 16 = .slice a2 x.vals.length b2 := s2
      obtain ⟨G3, m3⟩ := hdep 16 (by simp)
      obtain ⟨a3, b3, s3, -⟩ := m3.sl_q
      rw [List.length_map] at s3
      replace s3 : u 21 = .slice a3 x.rngs.length b3 := s3
      obtain ⟨G4, m4⟩ := hdep 21 (by simp)
      obtain ⟨a4, b4, s4, -⟩ := m4.sl_q
      rw [List.length_map] at s4
      replace s4 : u 26 = .slice a4 x.nams.length b4 := s4
      simp only [v2, v6] at hK ⊢
      simp only [s2, s3, s4] at hK ⊢
      go_wp2
      refine hK _ _ trivial ?_ (Kp.refl _ _)
      show Value.agg #[.string x.name, .int .i64 (0), .slice a2 x.vals.length b2, .slice a3 x.rngs.length b3, .slice a4 x.nams.length b4] = Value.agg #[.string x.name, .int .i64 (0), u 16, u 21, u 26]
      rw [s2, s3, s4]
    | 23, ho =>
      simp only [List.getElem?_toArray, List.getElem?_cons_zero, List.getElem?_cons_succ, Option.some.injEq] at ho
      subst ho
      obtain hbd := hdep 22 (by simp)
      obtain ⟨G2, m2⟩ := hdep 11 (by simp)
      obtain ⟨G3, m3⟩ := hdep 16 (by simp)
      obtain ⟨G4, m4⟩ := hdep 21 (by simp)
      obtain hk := hdep 24 (by simp)
      obtain ⟨a2, b2, s2, -⟩ := m2.sl_q
      rw [List.length_map] at s2
      replace s2 : u 16 = .slice a2 x.vals.length b2 := s2
      obtain ⟨a3, b3, s3, -⟩ := m3.sl_q
      rw [List.length_map] at s3
      replace s3 : u 21 = .slice a3 x.rngs.length b3 := s3
      obtain ⟨a4, b4, s4, -⟩ := m4.sl_q
      rw [List.length_map] at s4
      replace s4 : u 26 = .slice a4 x.nams.length b4 := s4
      replace hbd : u 27 = .agg #[.string x.name, .int .i64 (0), u 16, u 21, u 26] := hbd
      rw [s2, s3, s4] at hbd
      have hr1 := HR.out.kp hk (fun f => f)
      have rc0 := Blk.cell hr1 0
      have rf0 := Blk.frozen hr1 0
      have rc1 := Blk.cell hr1 1
      have rf1 := Blk.frozen hr1 1
      have rc2 := Blk.cell hr1 2
      have rf2 := Blk.frozen hr1 2
      have rc3 := Blk.cell hr1 3
      have rf3 := Blk.frozen hr1 3
      have rc4 := Blk.cell hr1 4
      have rf4 := Blk.frozen hr1 4
      simp only [List.getElem?_toArray, List.getElem?_cons_zero, List.getElem?_cons_succ] at rc0 rc1 rc2 rc3 rc4
      simp only [hbd] at hK ⊢
      have hBW := HS.out
      have S2 := Lib.hid s2
      clear s2
      have S3 := Lib.hid s3
      clear s3
      have S4 := Lib.hid s4
      clear s4
      go_wp2
      have hfr : Kp (fun k => k = q + 1) W _ := (Kp.setCell (p := ⟨q + 1, 4, none⟩) (Kp.setCell (p := ⟨q + 1, 3, none⟩) (Kp.setCell (p := ⟨q + 1, 2, none⟩) (Kp.setCell (p := ⟨q + 1, 1, none⟩) (Kp.setCell (p := ⟨q + 1, 0, none⟩) (Kp.refl (fun k => k = q + 1) W) (fun _ => rfl) (.string x.name)) (fun _ => rfl) (.int .i64 (0))) (fun _ => rfl) (.slice a2 x.vals.length b2)) (fun _ => rfl) (.slice a3 x.rngs.length b3)) (fun _ => rfl) (.slice a4 x.nams.length b4))
      exact hK undef _ trivial ⟨a2, b2, G2, a3, b3, G3, a4, b4, G4, (Blk.set_ (Blk.set_ (Blk.set_ (Blk.set_ (Blk.set_ hr1 0 (.string x.name)) 1 (.int .i64 (0))) 2 (.slice a2 x.vals.length b2)) 3 (.slice a3 x.rngs.length b3)) 4 (.slice a4 x.nams.length b4)), Mem.stays (S2.out ▸ m2) (fun g hg => hfr.block g (Mem.lt m2 g hg).2 (by have := (Mem.lt m2 g hg).1; omega)), Mem.stays (S3.out ▸ m3) (fun g hg => hfr.block g (Mem.lt m3 g hg).2 (by have := (Mem.lt m3 g hg).1; omega)), Mem.stays (S4.out ▸ m4) (fun g hg => hfr.block g (Mem.lt m4 g hg).2 (by have := (Mem.lt m4 g hg).1; omega)), (Kp.trans (Kp.mono (T := fun k => k = q + 1) hk (fun _ f _ => f.elim)) hfr)⟩ hfr
    | k + 24, ho => simp at ho
  case skip =>
    intro i o g b ho hg
    rw [no_guard (by kernel_rfl) ho] at hg
    cases hg
  case done =>
    intro u W hV hP
    obtain ⟨a2, b2, G2, a3, b3, G3, a4, b4, G4, hb, m2, m3, m4, hk⟩ := hP 23 (by decide) (by decide)
    clear hV hP
    have f0 := Blk.cell hb 0
    have f1 := Blk.cell hb 1
    have f2 := Blk.cell hb 2
    have f3 := Blk.cell hb 3
    have f4 := Blk.cell hb 4
    simp only [List.getElem?_toArray, List.getElem?_cons_zero, List.getElem?_cons_succ] at f0 f1 f2 f3 f4
    simp only [over, List.foldl_cons, List.foldl_nil, List.setIfInBounds_toArray, List.set_cons_zero, List.set_cons_succ, List.set_nil, List.getD_cons_zero, List.getD_cons_succ, Array.getD_eq_getD_getElem?, List.getElem?_toArray]
    go_wp2_with fail
    have hqw := HQ.out
    have hsw := HS.out
    refine bodyPost_ret (v := .agg #[.string x.name, .int .i64 (0), .slice a2 x.vals.length b2, .slice a3 x.rngs.length b3, .slice a4 x.nams.length b4]) (by simp [results, Tryz.results87, go_sem, f0, f1, f2, f3, f4]) rfl ⟨#[.string x.name, .int .i64 (0), .slice a2 x.vals.length b2, .slice a3 x.rngs.length b3, .slice a4 x.nams.length b4], ([] ++ ([] ++ (G2 ++ (G3 ++ (G4 ++ []))))), rfl, ?_, Kp.trans' HK0.out hk (fun i e hi => by omega)⟩
    exact .cons _ _ [] _ _ _ (.at_ _ rfl) (.cons _ _ [] _ _ _ (.at_ _ rfl) (.cons _ _ _ _ _ _ (Mem.base (by omega) m2) (.cons _ _ _ _ _ _ (Mem.base (by omega) m3) (.cons _ _ _ _ _ _ (Mem.base (by omega) m4) (.nil)))))
end
section
open Go.RowKit
set_option linter.unusedVariables false
set_option linter.unusedSimpArgs false

theorem Tryz.info86q : (Tryz.prog.info? 86).map (fun i => (i.zero, i.size, i.bytes)) = some (some (.agg #[.string ⟨#[]⟩, .int .i64 0, .slice none 0 0]), 3, 48) := by kernel_rfl
theorem Sv.len_q (x : Sv) : (Sv.dv Ty0 x).length = 3 := by cases x; rfl
theorem arr_Sv {vs : Array Value} (h : vs.toList.length = 3) : ∃ z0 z1 z2, vs = #[z0, z1, z2] := by
  obtain ⟨l⟩ := vs
  match l, h with
  | [z0, z1, z2], _ => exact ⟨z0, z1, z2, rfl⟩
set_option maxRecDepth 100000 in
set_option maxHeartbeats 4000000 in
theorem eachSv_bare {w : World} {B c : Nat} {l : List Sv} {A : Option Addr} {F : List Nat} (hl : Mem w B (lsD 86 3 (Sv.dv Ty0) l) (.slice A l.length c) F) (hf : Ls Sv.Few l) :
    Calls Tryz.prog 88 #[.slice A l.length c, .func (.func 89) #[.func (.func 49) #[] #[]] #[]] w fun e w' => ∃ v G, e = .returned v ∧ Mem w' w.heap.size (lsD 86 3 (Sv.dv Ty0) (l.map Sv.bare)) v G ∧ Kn w w' := by
  have HL := Lib.hid hl
  have HF := Lib.hid hf
  have hl2 : (l.length : Int) ≤ 128 := by have := hf.len; omega
  clear hl hf
  obtain ⟨i0, hi0, hz0, hz1, hz2⟩ := info_parts Tryz.info86q
  go_enter Tryz.func88, Tryz.ntmps88
  go_wp2_with fail
  go_loopg [5, 10] l.length (fun g v5 v10 wr => ∃ (i : Nat) (C : List Nat), i ≤ l.length ∧ g = l.length - i ∧ v10 = .int .i64 i ∧ Rows_ wr w.heap.size [⟨86, 3, i, ((l.take i).map Sv.bare).flatMap (Sv.dv Ty0), v5⟩] C ∧ Kn w wr)
  case atStart => exact ⟨0, [], Nat.zero_le _, rfl, rfl, Rows_.nils w w.heap.size [(86, 3)], Kp.refl _ _⟩
  case round =>
    obtain ⟨i, C, hi, rfl, rfl, hrw, hkr⟩ := hrel
    have HKR := Lib.hid hkr
    have HRW := Lib.hid hrw
    clear hkr hrw
    by_cases hil : i < l.length
    · obtain ⟨g1, ys, G1, rfl, hml, hcell⟩ := row_at (f := (Sv.dv Ty0)) (k := 3) (fun _ => rfl) (Mem.stays HL.out fun g hg => HKR.out.block g (Mem.lt HL.out g hg).2 (fun f => f)) hil
      have hin := List.getElem_mem hil
      have hx := HF.out.all _ hin
      have HTK := Lib.hid (List.take_succ_eq_append_getElem hil)
      generalize l[i] = x at *
      obtain ⟨A2, c2, F2, rfl, -⟩ := Sv.q hml
      have r0 := hcell 0 (by decide)
      have r1 := hcell 1 (by decide)
      have r2 := hcell 2 (by decide)
      simp only [List.getElem?_cons_zero, List.getElem?_cons_succ, Nat.add_zero] at r0 r1 r2
      have hil' : (i : Int) < (l.length : Int) := by omega
      have HC := Lib.hid (svcC_bare (hml.kn ((Kp.refl (fun _ => False) wr).alloc (.cells #[.string x.name, .int .i64 x.at_, .slice A2 x.rpcs.length c2] 86))) hx)
      clear hx hin hml hcell
      go_wp2_with fail
      refine HC.out.mono ?_
      rintro e w4 ⟨vs, G4, rfl, hm4, hk4⟩
      obtain ⟨z0, z1, z2, rfl⟩ := arr_Sv (by rw [MemL.len hm4]; exact Sv.len_q _)
      have ho4 := MemL.one hm4
      have HK4 := Lib.hid ((HKR.out.alloc (.cells #[.string x.name, .int .i64 x.at_, .slice A2 x.rpcs.length c2] 86)).trans hk4)
      have HRW4 := Lib.hid (((HRW.out.alloc (.cells #[.string x.name, .int .i64 x.at_, .slice A2 x.rpcs.length c2] 86)).kp hk4 (fun g f => f.elim)).alloc (.cells #[z0, z1, z2] 86))
      have HM4 := Lib.hid (MemL.base (B' := w.heap.size) (by have := HKR.out.size; simp; omega) (hm4.kn ((Kp.refl (fun _ => False) w4).alloc (.cells #[z0, z1, z2] 86))))
      have HG4 := Lib.hid (show ∀ g ∈ G4, g ∉ owns [(⟨86, 3, i, ((l.take i).map Sv.bare).flatMap (Sv.dv Ty0), _⟩ : Rw)] from fun g hg hm => by
        have h1 := (MemL.lt hm4 g hg).1
        have h2 := (HRW.out.own_lt g hm).2
        simp at h1
        omega)
      have hBz : w.heap.size ≤ (w4.alloc (.cells #[z0, z1, z2] 86)).heap.size := by have := HK4.out.size; simp; omega
      have hal : i ≤ 1000000 := by omega
      have o0 : z0.oneCell' = true := ho4 z0 (by simp)
      have o1 : z1.oneCell' = true := ho4 z1 (by simp)
      have o2 : z2.oneCell' = true := ho4 z2 (by simp)
      simp only [Value.oneCell'] at o0 o1 o2
      clear hk4 HC hm4 ho4 r0 r1 r2
      go_wp2_with (at_builtin; refine wpList_append_rows _ rfl _ _ 25 rfl HRW4.out 0 _ rfl i0 _ 48 Tryz.underlying25 hi0 hz0 hz1 hz2 rfl (Nat.succ_pos 2) rfl w4.heap.size rfl _ (Sv.dv Ty0 (Sv.bare x)) (Blk.new w4 86 _) rfl HM4.out HG4.out hal (by decide) hBz ?_; intro v5 w5 ho5 hg5 hv5; have HO5 := Lib.hid ho5; have HG5 := Lib.hid hg5; clear ho5 hg5 hv5)
      go_roundg (l.length - (i + 1))
      case measure => omega
      case rel =>
        refine ⟨i + 1, C ++ G4, by omega, rfl, by go_num, ?_, (HK4.out.alloc _).grown HG5.out fun q hq hlt => by have := (HRW4.out.own_mem (j := 0) rfl hq).2.1; omega⟩
        have h5 := HO5.out
        rw [HTK.out, List.map_append, List.flatMap_append]
        simpa using h5
    · go_wp2_with fail
      obtain ⟨G, hm, -⟩ := HRW.out.mem
      have hii : i = l.length := by omega
      subst hii
      rw [List.take_length] at hm
      cases hm with
      | cons d v F ds vs G h0 ht =>
      refine bodyPost_ret (v := _) (by simp [results, Tryz.results88, go_sem]; rfl) rfl ⟨_, F, rfl, ?_, HKR.out⟩
      unfold lsD
      rw [List.length_map]
      exact h0
theorem Tryz.info52q : (Tryz.prog.info? 52).map (fun i => (i.zero, i.size, i.bytes)) = some (some (.agg #[.string ⟨#[]⟩, .int .i64 0, .slice none 0 0, .slice none 0 0, .slice none 0 0]), 5, 96) := by kernel_rfl
theorem En.len_q (x : En) : (En.dv Ty0 x).length = 5 := by cases x; rfl
theorem arr_En {vs : Array Value} (h : vs.toList.length = 5) : ∃ z0 z1 z2 z3 z4, vs = #[z0, z1, z2, z3, z4] := by
  obtain ⟨l⟩ := vs
  match l, h with
  | [z0, z1, z2, z3, z4], _ => exact ⟨z0, z1, z2, z3, z4, rfl⟩
set_option maxRecDepth 100000 in
set_option maxHeartbeats 4000000 in
theorem eachEn_bare {w : World} {B c : Nat} {l : List En} {A : Option Addr} {F : List Nat} (hl : Mem w B (lsD 52 5 (En.dv Ty0) l) (.slice A l.length c) F) (hf : Ls En.Few l) :
    Calls Tryz.prog 86 #[.slice A l.length c, .func (.func 87) #[.func (.func 49) #[] #[]] #[]] w fun e w' => ∃ v G, e = .returned v ∧ Mem w' w.heap.size (lsD 52 5 (En.dv Ty0) (l.map En.bare)) v G ∧ Kn w w' := by
  have HL := Lib.hid hl
  have HF := Lib.hid hf
  have hl2 : (l.length : Int) ≤ 128 := by have := hf.len; omega
  clear hl hf
  obtain ⟨i0, hi0, hz0, hz1, hz2⟩ := info_parts Tryz.info52q
  go_enter Tryz.func86, Tryz.ntmps86
  go_wp2_with fail
  go_loopg [5, 10] l.length (fun g v5 v10 wr => ∃ (i : Nat) (C : List Nat), i ≤ l.length ∧ g = l.length - i ∧ v10 = .int .i64 i ∧ Rows_ wr w.heap.size [⟨52, 5, i, ((l.take i).map En.bare).flatMap (En.dv Ty0), v5⟩] C ∧ Kn w wr)
  case atStart => exact ⟨0, [], Nat.zero_le _, rfl, rfl, Rows_.nils w w.heap.size [(52, 5)], Kp.refl _ _⟩
  case round =>
    obtain ⟨i, C, hi, rfl, rfl, hrw, hkr⟩ := hrel
    have HKR := Lib.hid hkr
    have HRW := Lib.hid hrw
    clear hkr hrw
    by_cases hil : i < l.length
    · obtain ⟨g1, ys, G1, rfl, hml, hcell⟩ := row_at (f := (En.dv Ty0)) (k := 5) (fun _ => rfl) (Mem.stays HL.out fun g hg => HKR.out.block g (Mem.lt HL.out g hg).2 (fun f => f)) hil
      have hin := List.getElem_mem hil
      have hx := HF.out.all _ hin
      have HTK := Lib.hid (List.take_succ_eq_append_getElem hil)
      generalize l[i] = x at *
      obtain ⟨A2, c2, F2, A3, c3, F3, A4, c4, F4, rfl, -⟩ := En.q hml
      have r0 := hcell 0 (by decide)
      have r1 := hcell 1 (by decide)
      have r2 := hcell 2 (by decide)
      have r3 := hcell 3 (by decide)
      have r4 := hcell 4 (by decide)
      simp only [List.getElem?_cons_zero, List.getElem?_cons_succ, Nat.add_zero] at r0 r1 r2 r3 r4
      have hil' : (i : Int) < (l.length : Int) := by omega
      have HC := Lib.hid (enumC_bare (hml.kn ((Kp.refl (fun _ => False) wr).alloc (.cells #[.string x.name, .int .i64 x.at_, .slice A2 x.vals.length c2, .slice A3 x.rngs.length c3, .slice A4 x.nams.length c4] 52))) hx)
      clear hx hin hml hcell
      go_wp2_with fail
      refine HC.out.mono ?_
      rintro e w4 ⟨vs, G4, rfl, hm4, hk4⟩
      obtain ⟨z0, z1, z2, z3, z4, rfl⟩ := arr_En (by rw [MemL.len hm4]; exact En.len_q _)
      have ho4 := MemL.one hm4
      have HK4 := Lib.hid ((HKR.out.alloc (.cells #[.string x.name, .int .i64 x.at_, .slice A2 x.vals.length c2, .slice A3 x.rngs.length c3, .slice A4 x.nams.length c4] 52)).trans hk4)
      have HRW4 := Lib.hid (((HRW.out.alloc (.cells #[.string x.name, .int .i64 x.at_, .slice A2 x.vals.length c2, .slice A3 x.rngs.length c3, .slice A4 x.nams.length c4] 52)).kp hk4 (fun g f => f.elim)).alloc (.cells #[z0, z1, z2, z3, z4] 52))
      have HM4 := Lib.hid (MemL.base (B' := w.heap.size) (by have := HKR.out.size; simp; omega) (hm4.kn ((Kp.refl (fun _ => False) w4).alloc (.cells #[z0, z1, z2, z3, z4] 52))))
      have HG4 := Lib.hid (show ∀ g ∈ G4, g ∉ owns [(⟨52, 5, i, ((l.take i).map En.bare).flatMap (En.dv Ty0), _⟩ : Rw)] from fun g hg hm => by
        have h1 := (MemL.lt hm4 g hg).1
        have h2 := (HRW.out.own_lt g hm).2
        simp at h1
        omega)
      have hBz : w.heap.size ≤ (w4.alloc (.cells #[z0, z1, z2, z3, z4] 52)).heap.size := by have := HK4.out.size; simp; omega
      have hal : i ≤ 1000000 := by omega
      have o0 : z0.oneCell' = true := ho4 z0 (by simp)
      have o1 : z1.oneCell' = true := ho4 z1 (by simp)
      have o2 : z2.oneCell' = true := ho4 z2 (by simp)
      have o3 : z3.oneCell' = true := ho4 z3 (by simp)
      have o4 : z4.oneCell' = true := ho4 z4 (by simp)
      simp only [Value.oneCell'] at o0 o1 o2 o3 o4
      clear hk4 HC hm4 ho4 r0 r1 r2 r3 r4
      go_wp2_with (at_builtin; refine wpList_append_rows _ rfl _ _ 24 rfl HRW4.out 0 _ rfl i0 _ 96 Tryz.underlying24 hi0 hz0 hz1 hz2 rfl (Nat.succ_pos 4) rfl w4.heap.size rfl _ (En.dv Ty0 (En.bare x)) (Blk.new w4 52 _) rfl HM4.out HG4.out hal (by decide) hBz ?_; intro v5 w5 ho5 hg5 hv5; have HO5 := Lib.hid ho5; have HG5 := Lib.hid hg5; clear ho5 hg5 hv5)
      go_roundg (l.length - (i + 1))
      case measure => omega
      case rel =>
        refine ⟨i + 1, C ++ G4, by omega, rfl, by go_num, ?_, (HK4.out.alloc _).grown HG5.out fun q hq hlt => by have := (HRW4.out.own_mem (j := 0) rfl hq).2.1; omega⟩
        have h5 := HO5.out
        rw [HTK.out, List.map_append, List.flatMap_append]
        simpa using h5
    · go_wp2_with fail
      obtain ⟨G, hm, -⟩ := HRW.out.mem
      have hii : i = l.length := by omega
      subst hii
      rw [List.take_length] at hm
      cases hm with
      | cons d v F ds vs G h0 ht =>
      refine bodyPost_ret (v := _) (by simp [results, Tryz.results86, go_sem]; rfl) rfl ⟨_, F, rfl, ?_, HKR.out⟩
      unfold lsD
      rw [List.length_map]
      exact h0
end
end Go.Proofs.YthmdaejlopjjoaaGreatDoor
