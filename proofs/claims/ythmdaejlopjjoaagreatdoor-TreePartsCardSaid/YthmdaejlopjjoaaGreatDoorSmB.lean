/-
  tree: Same: enums and services.
  tree: Same: messages, files.
-/
import Derived.Test.YthmdaejlopjjoaaGreatDoorSmA
import Derived.Test.YthmdaejlopjjoaaGreatDoorTrP18
namespace Go.Proofs.YthmdaejlopjjoaaGreatDoor
section
open Go.RowKit
set_option linter.unusedVariables false
set_option linter.unusedSimpArgs false

theorem Mem.kn {w w' : World} {B : Nat} {d : Dv} {v : Value} {F : List Nat} (h : Mem w B d v F) (hk : Kn w w') : Mem w' B d v F := Mem.stays h fun g hg => hk.block g (Mem.lt h g hg).2 (fun f => f)
theorem MemL.kn {w w' : World} {B : Nat} {d : List Dv} {v : List Value} {F : List Nat} (h : MemL w B d v F) (hk : Kn w w') : MemL w' B d v F := MemL.stays h fun g hg => hk.block g (MemL.lt h g hg).2 (fun f => f)
theorem En.q {w : World} {B : Nat} {x : En} {xs : List Value} {F : List Nat} (h : MemL w B (En.dv Ty0 x) xs F) : ∃ A2 c2 F2 A3 c3 F3 A4 c4 F4, xs = [.string x.name, .int .i64 x.at_, .slice A2 x.vals.length c2, .slice A3 x.rngs.length c3, .slice A4 x.nams.length c4] ∧ Mem w B (lsD 55 3 Vl.dv x.vals) (.slice A2 x.vals.length c2) F2 ∧ Mem w B (lsD 126 3 Sp.dv x.rngs) (.slice A3 x.rngs.length c3) F3 ∧ Mem w B (lsD 99 2 Tx.dv x.nams) (.slice A4 x.nams.length c4) F4 := by
  unfold En.dv at h
  cases h with
  | cons d v0 F0 ds vs G h0 h =>
  cases h with
  | cons d v1 F1 ds vs G h1 h =>
  cases h with
  | cons d v2 F2 ds vs G h2 h =>
  cases h with
  | cons d v3 F3 ds vs G h3 h =>
  cases h with
  | cons d v4 F4 ds vs G h4 h =>
  cases h with
  | nil =>
  obtain rfl := h0.at_q
  obtain rfl := h1.at_q
  obtain ⟨A2, c2, rfl, _⟩ := h2.sl_q
  obtain ⟨A3, c3, rfl, _⟩ := h3.sl_q
  obtain ⟨A4, c4, rfl, _⟩ := h4.sl_q
  exact ⟨A2, c2, F2, A3, c3, F3, A4, c4, F4, rfl, h2, h3, h4⟩
set_option maxRecDepth 100000 in
set_option maxHeartbeats 4000000 in
theorem sameEnum_any {x y : En} {w : World} {B B' : Nat} {xs ys : List Value} {G G' : List Nat} (hx : MemL w B (En.dv Ty0 x) xs G) (hy : MemL w B' (En.dv Ty0 y) ys G') :
    Calls Tryz.prog 41 #[.agg xs.toArray, .agg ys.toArray] w fun e w' => e = .returned (.bool (x.eqB y)) ∧ Kn w w' := by
  obtain ⟨A2, c2, F2, A3, c3, F3, A4, c4, F4, rfl, x2, x3, x4⟩ := En.q hx
  obtain ⟨D2, d2, H2, D3, d3, H3, D4, d4, H4, rfl, y2, y3, y4⟩ := En.q hy
  have HK := Lib.hid (((Kp.refl (fun _ => False) w).alloc (.cells #[.string x.name, .int .i64 x.at_, .slice A2 x.vals.length c2, .slice A3 x.rngs.length c3, .slice A4 x.nams.length c4] 52)).alloc (.cells #[.string y.name, .int .i64 y.at_, .slice D2 y.vals.length d2, .slice D3 y.rngs.length d3, .slice D4 y.nams.length d4] 52))
  have HX := Lib.hid ((Blk.new w 52 #[.string x.name, .int .i64 x.at_, .slice A2 x.vals.length c2, .slice A3 x.rngs.length c3, .slice A4 x.nams.length c4]).alloc (.cells #[.string y.name, .int .i64 y.at_, .slice D2 y.vals.length d2, .slice D3 y.rngs.length d3, .slice D4 y.nams.length d4] 52))
  have HY := Lib.hid (show Blk _ (w.heap.size + 1) _ _ by have := Blk.new (w.alloc (.cells #[.string x.name, .int .i64 x.at_, .slice A2 x.vals.length c2, .slice A3 x.rngs.length c3, .slice A4 x.nams.length c4] 52)) 52 #[.string y.name, .int .i64 y.at_, .slice D2 y.vals.length d2, .slice D3 y.rngs.length d3, .slice D4 y.nams.length d4]; simpa using this)
  have X2 := Lib.hid x2
  have Y2 := Lib.hid y2
  have X3 := Lib.hid x3
  have Y3 := Lib.hid y3
  have X4 := Lib.hid x4
  have Y4 := Lib.hid y4
  clear hx hy x2 y2 x3 y3 x4 y4
  unfold En.eqB
  by_cases hn : x.name = y.name
  · have hn' : x.name.toList = y.name.toList := by rw [hn]
    have HN := Lib.hid hn
    clear hn
    go_enter Tryz.func41, Tryz.ntmps41
    go_wp2_with fail
    refine (eqVl_any (X2.out.kn HK.out) (Y2.out.kn HK.out)).mono ?_
    rintro e w1 ⟨rfl, hk1⟩
    have HK1 := Lib.hid ((HK.out).trans hk1)
    have HX1 := Lib.hid (HX.out.kp hk1 (fun f => f))
    have HY1 := Lib.hid (HY.out.kp hk1 (fun f => f))
    clear hk1
    cases hb1 : eqQ Vl.eqB x.vals y.vals
    · go_wp2_with fail
      refine bodyPost_ret (v := .bool false) (by simp [results, Tryz.results41, go_sem]) rfl ⟨by simp [HN.out, hb1], HK1.out⟩
    · have q1 := HX1.out.cell 3
      have p1 := HY1.out.cell 3
      simp only [List.getElem?_toArray, List.getElem?_cons_zero, List.getElem?_cons_succ] at q1 p1
      go_wp2_with fail
      refine (eqSp_any (X3.out.kn HK1.out) (Y3.out.kn HK1.out)).mono ?_
      rintro e w2 ⟨rfl, hk2⟩
      have HK2 := Lib.hid ((HK1.out).trans hk2)
      have HX2 := Lib.hid (HX1.out.kp hk2 (fun f => f))
      have HY2 := Lib.hid (HY1.out.kp hk2 (fun f => f))
      clear hk2 q1 p1
      cases hb2 : eqQ Sp.eqB x.rngs y.rngs
      · go_wp2_with fail
        refine bodyPost_ret (v := .bool false) (by simp [results, Tryz.results41, go_sem]) rfl ⟨by simp [HN.out, hb1, hb2], HK2.out⟩
      · have q2 := HX2.out.cell 4
        have p2 := HY2.out.cell 4
        simp only [List.getElem?_toArray, List.getElem?_cons_zero, List.getElem?_cons_succ] at q2 p2
        go_wp2_with fail
        refine (eqTx_any (X4.out.kn HK2.out) (Y4.out.kn HK2.out)).mono ?_
        rintro e w3 ⟨rfl, hk3⟩
        have HK3 := Lib.hid ((HK2.out).trans hk3)
        have HX3 := Lib.hid (HX2.out.kp hk3 (fun f => f))
        have HY3 := Lib.hid (HY2.out.kp hk3 (fun f => f))
        clear hk3 q2 p2
        cases hb3 : eqQ Tx.eqB x.nams y.nams
        · go_wp2_with fail
          refine bodyPost_ret (v := .bool false) (by simp [results, Tryz.results41, go_sem]) rfl ⟨by simp [HN.out, hb1, hb2, hb3], HK3.out⟩
        · go_wp2_with fail
          refine bodyPost_ret (v := .bool true) (by simp [results, Tryz.results41, go_sem]) rfl ⟨by simp [HN.out, hb1, hb2, hb3], HK3.out⟩
  · have hn' : ¬ x.name.toList = y.name.toList := by rw [tl_iff]; exact hn
    go_enter Tryz.func41, Tryz.ntmps41
    go_wp2_with fail
    refine bodyPost_ret (v := .bool false) (by simp [results, Tryz.results41, go_sem]) rfl ⟨by simp [hn], HK.out⟩
set_option maxRecDepth 100000 in
set_option maxHeartbeats 2000000 in
theorem eqEn_any {w : World} {B B' c c' : Nat} {l m : List En} {A A' : Option Addr} {F F' : List Nat} (hl : Mem w B (lsD 52 5 (En.dv Ty0) l) (.slice A l.length c) F) (hm : Mem w B' (lsD 52 5 (En.dv Ty0) m) (.slice A' m.length c') F') :
    Calls Tryz.prog 40 #[.slice A l.length c, .slice A' m.length c', .func (.func 41) #[] #[]] w fun e w' => e = .returned (.bool (eqQ En.eqB l m)) ∧ Kn w w' := by
  have HL := Lib.hid hl
  have HM := Lib.hid hm
  have hl2 : (l.length : Int) ≤ 9223372036854775807 := by obtain ⟨_, _, _, hn⟩ := hl.sl_q; unfold maxLen at hn; omega
  have hm2 : (m.length : Int) ≤ 9223372036854775807 := by obtain ⟨_, _, _, hn⟩ := hm.sl_q; unfold maxLen at hn; omega
  clear hl hm
  by_cases hlen : l.length = m.length
  · have hlen2 := Lib.hid hlen
    have hlen' : (l.length : Int) = (m.length : Int) := by omega
    clear hlen
    go_enter Tryz.func40, Tryz.ntmps40
    go_wp2_with fail
    go_loopg [17] l.length (fun g v17 wr => ∃ i : Nat, i ≤ l.length ∧ g = l.length - i ∧ v17 = .int .i64 i ∧ eqQ En.eqB l m = eqQ En.eqB (l.drop i) (m.drop i) ∧ Kn w wr)
    case atStart => exact ⟨0, Nat.zero_le _, rfl, rfl, rfl, Kp.refl _ _⟩
    case round =>
      obtain ⟨i, hi, rfl, rfl, heq, hkr⟩ := hrel
      have HKR := Lib.hid hkr
      have HEQ := Lib.hid heq
      clear hkr heq
      by_cases hil : i < l.length
      · have him : i < m.length := by have := hlen2.out; omega
        obtain ⟨g1, ys, G1, rfl, hml, hcell⟩ := row_at (f := (En.dv Ty0)) (k := 5) (fun _ => rfl) (Mem.stays HL.out fun g hg => HKR.out.block g (Mem.lt HL.out g hg).2 (fun f => f)) hil
        obtain ⟨g2, zs, G2, rfl, hmm, hcelm⟩ := row_at (f := (En.dv Ty0)) (k := 5) (fun _ => rfl) (Mem.stays HM.out fun g hg => HKR.out.block g (Mem.lt HM.out g hg).2 (fun f => f)) him
        have hin := List.getElem_mem hil
        have HST := Lib.hid (HEQ.out.trans (eqQ_step En.eqB hil him))
        have HIN := Lib.hid hin
        clear hin
        generalize l[i] = x at *
        generalize m[i] = y at *
        obtain ⟨A2, c2, F2, A3, c3, F3, A4, c4, F4, rfl, -⟩ := En.q hml
        obtain ⟨D2, d2, H2, D3, d3, H3, D4, d4, H4, rfl, -⟩ := En.q hmm
        have r0 := hcell 0 (by decide)
        have s0 := hcelm 0 (by decide)
        have r1 := hcell 1 (by decide)
        have s1 := hcelm 1 (by decide)
        have r2 := hcell 2 (by decide)
        have s2 := hcelm 2 (by decide)
        have r3 := hcell 3 (by decide)
        have s3 := hcelm 3 (by decide)
        have r4 := hcell 4 (by decide)
        have s4 := hcelm 4 (by decide)
        simp only [List.getElem?_cons_zero, List.getElem?_cons_succ, Nat.add_zero] at r0 s0 r1 s1 r2 s2 r3 s3 r4 s4
        have s0a := cell_al (o := .cells #[.string x.name, .int .i64 x.at_, .slice A2 x.vals.length c2, .slice A3 x.rngs.length c3, .slice A4 x.nams.length c4] 52) s0
        have s1a := cell_al (o := .cells #[.string x.name, .int .i64 x.at_, .slice A2 x.vals.length c2, .slice A3 x.rngs.length c3, .slice A4 x.nams.length c4] 52) s1
        have s2a := cell_al (o := .cells #[.string x.name, .int .i64 x.at_, .slice A2 x.vals.length c2, .slice A3 x.rngs.length c3, .slice A4 x.nams.length c4] 52) s2
        have s3a := cell_al (o := .cells #[.string x.name, .int .i64 x.at_, .slice A2 x.vals.length c2, .slice A3 x.rngs.length c3, .slice A4 x.nams.length c4] 52) s3
        have s4a := cell_al (o := .cells #[.string x.name, .int .i64 x.at_, .slice A2 x.vals.length c2, .slice A3 x.rngs.length c3, .slice A4 x.nams.length c4] 52) s4
        clear s0 s1 s2 s3 s4
        have HCA := Lib.hid (sameEnum_any (hml.kn (((Kp.refl (fun _ => False) wr).alloc (.cells #[.string x.name, .int .i64 x.at_, .slice A2 x.vals.length c2, .slice A3 x.rngs.length c3, .slice A4 x.nams.length c4] 52)).alloc (.cells #[.string y.name, .int .i64 y.at_, .slice D2 y.vals.length d2, .slice D3 y.rngs.length d3, .slice D4 y.nams.length d4] 52))) (hmm.kn (((Kp.refl (fun _ => False) wr).alloc (.cells #[.string x.name, .int .i64 x.at_, .slice A2 x.vals.length c2, .slice A3 x.rngs.length c3, .slice A4 x.nams.length c4] 52)).alloc (.cells #[.string y.name, .int .i64 y.at_, .slice D2 y.vals.length d2, .slice D3 y.rngs.length d3, .slice D4 y.nams.length d4] 52))))
        clear hcell hcelm hml hmm HEQ
        have hil' : (i : Int) < (l.length : Int) := by omega
        have him' : (i : Int) < (m.length : Int) := by omega
        go_wp2_with fail
        refine HCA.out.mono ?_
        rintro e w4 ⟨rfl, hk4⟩
        have HK4 := Lib.hid hk4
        clear hk4
        cases hb : x.eqB y
        · go_wp2_with fail
          refine bodyPost_ret (v := .bool false) (by simp [results, Tryz.results40, go_sem]) rfl ⟨by rw [HST.out, hb]; rfl, ((HKR.out.alloc _).alloc _).trans HK4.out⟩
        · go_wp2_with fail
          go_roundg (l.length - (i + 1))
          case measure => omega
          case rel => exact ⟨i + 1, by omega, rfl, by go_num, by rw [HST.out, hb, Bool.true_and], ((HKR.out.alloc _).alloc _).trans HK4.out⟩
      · go_wp2_with fail
        refine bodyPost_ret (v := .bool true) (by simp [results, Tryz.results40, go_sem]) rfl ⟨by rw [HEQ.out, eqQ_end _ (by omega) (by have := hlen2.out; omega)], HKR.out⟩
  · have hlen' : ¬ (l.length : Int) = (m.length : Int) := by omega
    rw [eqQ_len _ hlen]
    go_enter Tryz.func40, Tryz.ntmps40
    go_wp2_with fail
    refine bodyPost_ret (v := .bool false) (by simp [results, Tryz.results40, go_sem]) rfl ⟨rfl, Kp.refl _ _⟩
theorem Sv.q {w : World} {B : Nat} {x : Sv} {xs : List Value} {F : List Nat} (h : MemL w B (Sv.dv Ty0 x) xs F) : ∃ A2 c2 F2, xs = [.string x.name, .int .i64 x.at_, .slice A2 x.rpcs.length c2] ∧ Mem w B (lsD 91 6 Rp.dv x.rpcs) (.slice A2 x.rpcs.length c2) F2 := by
  unfold Sv.dv at h
  cases h with
  | cons d v0 F0 ds vs G h0 h =>
  cases h with
  | cons d v1 F1 ds vs G h1 h =>
  cases h with
  | cons d v2 F2 ds vs G h2 h =>
  cases h with
  | nil =>
  obtain rfl := h0.at_q
  obtain rfl := h1.at_q
  obtain ⟨A2, c2, rfl, _⟩ := h2.sl_q
  exact ⟨A2, c2, F2, rfl, h2⟩
set_option maxRecDepth 100000 in
set_option maxHeartbeats 4000000 in
theorem sameSvc_any {x y : Sv} {w : World} {B B' : Nat} {xs ys : List Value} {G G' : List Nat} (hx : MemL w B (Sv.dv Ty0 x) xs G) (hy : MemL w B' (Sv.dv Ty0 y) ys G') :
    Calls Tryz.prog 43 #[.agg xs.toArray, .agg ys.toArray] w fun e w' => e = .returned (.bool (x.eqB y)) ∧ Kn w w' := by
  obtain ⟨A2, c2, F2, rfl, x2⟩ := Sv.q hx
  obtain ⟨D2, d2, H2, rfl, y2⟩ := Sv.q hy
  have HK := Lib.hid (((Kp.refl (fun _ => False) w).alloc (.cells #[.string x.name, .int .i64 x.at_, .slice A2 x.rpcs.length c2] 86)).alloc (.cells #[.string y.name, .int .i64 y.at_, .slice D2 y.rpcs.length d2] 86))
  have HX := Lib.hid ((Blk.new w 86 #[.string x.name, .int .i64 x.at_, .slice A2 x.rpcs.length c2]).alloc (.cells #[.string y.name, .int .i64 y.at_, .slice D2 y.rpcs.length d2] 86))
  have HY := Lib.hid (show Blk _ (w.heap.size + 1) _ _ by have := Blk.new (w.alloc (.cells #[.string x.name, .int .i64 x.at_, .slice A2 x.rpcs.length c2] 86)) 86 #[.string y.name, .int .i64 y.at_, .slice D2 y.rpcs.length d2]; simpa using this)
  have X2 := Lib.hid x2
  have Y2 := Lib.hid y2
  clear hx hy x2 y2
  unfold Sv.eqB
  by_cases hn : x.name = y.name
  · have hn' : x.name.toList = y.name.toList := by rw [hn]
    have HN := Lib.hid hn
    clear hn
    go_enter Tryz.func43, Tryz.ntmps43
    go_wp2_with fail
    refine (eqRp_any (X2.out.kn HK.out) (Y2.out.kn HK.out)).mono ?_
    rintro e w1 ⟨rfl, hk1⟩
    have HK1 := Lib.hid ((HK.out).trans hk1)
    have HX1 := Lib.hid (HX.out.kp hk1 (fun f => f))
    have HY1 := Lib.hid (HY.out.kp hk1 (fun f => f))
    clear hk1
    cases hb1 : eqQ Rp.eqB x.rpcs y.rpcs
    · go_wp2_with fail
      refine bodyPost_ret (v := .bool false) (by simp [results, Tryz.results43, go_sem]) rfl ⟨by simp [HN.out, hb1], HK1.out⟩
    · go_wp2_with fail
      refine bodyPost_ret (v := .bool true) (by simp [results, Tryz.results43, go_sem]) rfl ⟨by simp [HN.out, hb1], HK1.out⟩
  · have hn' : ¬ x.name.toList = y.name.toList := by rw [tl_iff]; exact hn
    go_enter Tryz.func43, Tryz.ntmps43
    go_wp2_with fail
    refine bodyPost_ret (v := .bool false) (by simp [results, Tryz.results43, go_sem]) rfl ⟨by simp [hn], HK.out⟩
set_option maxRecDepth 100000 in
set_option maxHeartbeats 2000000 in
theorem eqSv_any {w : World} {B B' c c' : Nat} {l m : List Sv} {A A' : Option Addr} {F F' : List Nat} (hl : Mem w B (lsD 86 3 (Sv.dv Ty0) l) (.slice A l.length c) F) (hm : Mem w B' (lsD 86 3 (Sv.dv Ty0) m) (.slice A' m.length c') F') :
    Calls Tryz.prog 42 #[.slice A l.length c, .slice A' m.length c', .func (.func 43) #[] #[]] w fun e w' => e = .returned (.bool (eqQ Sv.eqB l m)) ∧ Kn w w' := by
  have HL := Lib.hid hl
  have HM := Lib.hid hm
  have hl2 : (l.length : Int) ≤ 9223372036854775807 := by obtain ⟨_, _, _, hn⟩ := hl.sl_q; unfold maxLen at hn; omega
  have hm2 : (m.length : Int) ≤ 9223372036854775807 := by obtain ⟨_, _, _, hn⟩ := hm.sl_q; unfold maxLen at hn; omega
  clear hl hm
  by_cases hlen : l.length = m.length
  · have hlen2 := Lib.hid hlen
    have hlen' : (l.length : Int) = (m.length : Int) := by omega
    clear hlen
    go_enter Tryz.func42, Tryz.ntmps42
    go_wp2_with fail
    go_loopg [17] l.length (fun g v17 wr => ∃ i : Nat, i ≤ l.length ∧ g = l.length - i ∧ v17 = .int .i64 i ∧ eqQ Sv.eqB l m = eqQ Sv.eqB (l.drop i) (m.drop i) ∧ Kn w wr)
    case atStart => exact ⟨0, Nat.zero_le _, rfl, rfl, rfl, Kp.refl _ _⟩
    case round =>
      obtain ⟨i, hi, rfl, rfl, heq, hkr⟩ := hrel
      have HKR := Lib.hid hkr
      have HEQ := Lib.hid heq
      clear hkr heq
      by_cases hil : i < l.length
      · have him : i < m.length := by have := hlen2.out; omega
        obtain ⟨g1, ys, G1, rfl, hml, hcell⟩ := row_at (f := (Sv.dv Ty0)) (k := 3) (fun _ => rfl) (Mem.stays HL.out fun g hg => HKR.out.block g (Mem.lt HL.out g hg).2 (fun f => f)) hil
        obtain ⟨g2, zs, G2, rfl, hmm, hcelm⟩ := row_at (f := (Sv.dv Ty0)) (k := 3) (fun _ => rfl) (Mem.stays HM.out fun g hg => HKR.out.block g (Mem.lt HM.out g hg).2 (fun f => f)) him
        have hin := List.getElem_mem hil
        have HST := Lib.hid (HEQ.out.trans (eqQ_step Sv.eqB hil him))
        have HIN := Lib.hid hin
        clear hin
        generalize l[i] = x at *
        generalize m[i] = y at *
        obtain ⟨A2, c2, F2, rfl, -⟩ := Sv.q hml
        obtain ⟨D2, d2, H2, rfl, -⟩ := Sv.q hmm
        have r0 := hcell 0 (by decide)
        have s0 := hcelm 0 (by decide)
        have r1 := hcell 1 (by decide)
        have s1 := hcelm 1 (by decide)
        have r2 := hcell 2 (by decide)
        have s2 := hcelm 2 (by decide)
        simp only [List.getElem?_cons_zero, List.getElem?_cons_succ, Nat.add_zero] at r0 s0 r1 s1 r2 s2
        have s0a := cell_al (o := .cells #[.string x.name, .int .i64 x.at_, .slice A2 x.rpcs.length c2] 86) s0
        have s1a := cell_al (o := .cells #[.string x.name, .int .i64 x.at_, .slice A2 x.rpcs.length c2] 86) s1
        have s2a := cell_al (o := .cells #[.string x.name, .int .i64 x.at_, .slice A2 x.rpcs.length c2] 86) s2
        clear s0 s1 s2
        have HCA := Lib.hid (sameSvc_any (hml.kn (((Kp.refl (fun _ => False) wr).alloc (.cells #[.string x.name, .int .i64 x.at_, .slice A2 x.rpcs.length c2] 86)).alloc (.cells #[.string y.name, .int .i64 y.at_, .slice D2 y.rpcs.length d2] 86))) (hmm.kn (((Kp.refl (fun _ => False) wr).alloc (.cells #[.string x.name, .int .i64 x.at_, .slice A2 x.rpcs.length c2] 86)).alloc (.cells #[.string y.name, .int .i64 y.at_, .slice D2 y.rpcs.length d2] 86))))
        clear hcell hcelm hml hmm HEQ
        have hil' : (i : Int) < (l.length : Int) := by omega
        have him' : (i : Int) < (m.length : Int) := by omega
        go_wp2_with fail
        refine HCA.out.mono ?_
        rintro e w4 ⟨rfl, hk4⟩
        have HK4 := Lib.hid hk4
        clear hk4
        cases hb : x.eqB y
        · go_wp2_with fail
          refine bodyPost_ret (v := .bool false) (by simp [results, Tryz.results42, go_sem]) rfl ⟨by rw [HST.out, hb]; rfl, ((HKR.out.alloc _).alloc _).trans HK4.out⟩
        · go_wp2_with fail
          go_roundg (l.length - (i + 1))
          case measure => omega
          case rel => exact ⟨i + 1, by omega, rfl, by go_num, by rw [HST.out, hb, Bool.true_and], ((HKR.out.alloc _).alloc _).trans HK4.out⟩
      · go_wp2_with fail
        refine bodyPost_ret (v := .bool true) (by simp [results, Tryz.results42, go_sem]) rfl ⟨by rw [HEQ.out, eqQ_end _ (by omega) (by have := hlen2.out; omega)], HKR.out⟩
  · have hlen' : ¬ (l.length : Int) = (m.length : Int) := by omega
    rw [eqQ_len _ hlen]
    go_enter Tryz.func42, Tryz.ntmps42
    go_wp2_with fail
    refine bodyPost_ret (v := .bool false) (by simp [results, Tryz.results42, go_sem]) rfl ⟨rfl, Kp.refl _ _⟩
end
section
open Go.RowKit
set_option linter.unusedVariables false
set_option linter.unusedSimpArgs false

theorem Ms.q {w : World} {B : Nat} {x : Ms} {xs : List Value} {F : List Nat} (h : MemL w B (Ms.dv Ty0 x) xs F) : ∃ A2 c2 F2 A3 c3 F3 A4 c4 F4 A5 c5 F5 A6 c6 F6 A7 c7 F7, xs = [.string x.name, .int .i64 x.at_, .slice A2 x.flds.length c2, .slice A3 x.onos.length c3, .slice A4 x.msgs.length c4, .slice A5 x.enums.length c5, .slice A6 x.rngs.length c6, .slice A7 x.nams.length c7] ∧ Mem w B (lsD 97 10 Fd.dv x.flds) (.slice A2 x.flds.length c2) F2 ∧ Mem w B (lsD 99 2 Tx.dv x.onos) (.slice A3 x.onos.length c3) F3 ∧ Mem w B (lsD 49 8 (Ms.dv Ty0) x.msgs) (.slice A4 x.msgs.length c4) F4 ∧ Mem w B (lsD 52 5 (En.dv Ty0) x.enums) (.slice A5 x.enums.length c5) F5 ∧ Mem w B (lsD 126 3 Sp.dv x.rngs) (.slice A6 x.rngs.length c6) F6 ∧ Mem w B (lsD 99 2 Tx.dv x.nams) (.slice A7 x.nams.length c7) F7 := by
  obtain ⟨name, at_, flds, onos, msgs, enums, rngs, nams⟩ := x
  unfold Ms.dv at h
  cases h with
  | cons d v0 F0 ds vs G h0 h =>
  cases h with
  | cons d v1 F1 ds vs G h1 h =>
  cases h with
  | cons d v2 F2 ds vs G h2 h =>
  cases h with
  | cons d v3 F3 ds vs G h3 h =>
  cases h with
  | cons d v4 F4 ds vs G h4 h =>
  cases h with
  | cons d v5 F5 ds vs G h5 h =>
  cases h with
  | cons d v6 F6 ds vs G h6 h =>
  cases h with
  | cons d v7 F7 ds vs G h7 h =>
  cases h with
  | nil =>
  obtain rfl := h0.at_q
  obtain rfl := h1.at_q
  obtain ⟨A2, c2, rfl, _⟩ := h2.sl_q
  obtain ⟨A3, c3, rfl, _⟩ := h3.sl_q
  obtain ⟨A4, c4, rfl, _⟩ := h4.sl_q
  obtain ⟨A5, c5, rfl, _⟩ := h5.sl_q
  obtain ⟨A6, c6, rfl, _⟩ := h6.sl_q
  obtain ⟨A7, c7, rfl, _⟩ := h7.sl_q
  rw [msL_eq] at h4
  exact ⟨A2, c2, F2, A3, c3, F3, A4, c4, F4, A5, c5, F5, A6, c6, F6, A7, c7, F7, rfl, h2, h3, h4, h5, h6, h7⟩
set_option maxRecDepth 100000 in
set_option maxHeartbeats 2000000 in
theorem eqMs_any {w : World} {B B' c c' : Nat} {l m : List Ms} {A A' : Option Addr} {F F' : List Nat} (hl : Mem w B (lsD 49 8 (Ms.dv Ty0) l) (.slice A l.length c) F) (hm : Mem w B' (lsD 49 8 (Ms.dv Ty0) m) (.slice A' m.length c') F') (hsub : ∀ z ∈ l, ∀ (u : Ms) (W : World) (zs us : List Value) (G G' : List Nat), MemL W B (Ms.dv Ty0 z) zs G → MemL W B' (Ms.dv Ty0 u) us G' → Calls Tryz.prog 39 #[.agg zs.toArray, .agg us.toArray] W fun e W' => e = .returned (.bool (z.eqB u)) ∧ Kn W W') :
    Calls Tryz.prog 38 #[.slice A l.length c, .slice A' m.length c', .func (.func 39) #[] #[]] w fun e w' => e = .returned (.bool (eqQ Ms.eqB l m)) ∧ Kn w w' := by
  have HL := Lib.hid hl
  have HM := Lib.hid hm
  have HSUB := Lib.hid hsub
  clear hsub
  have hl2 : (l.length : Int) ≤ 9223372036854775807 := by obtain ⟨_, _, _, hn⟩ := hl.sl_q; unfold maxLen at hn; omega
  have hm2 : (m.length : Int) ≤ 9223372036854775807 := by obtain ⟨_, _, _, hn⟩ := hm.sl_q; unfold maxLen at hn; omega
  clear hl hm
  by_cases hlen : l.length = m.length
  · have hlen2 := Lib.hid hlen
    have hlen' : (l.length : Int) = (m.length : Int) := by omega
    clear hlen
    go_enter Tryz.func38, Tryz.ntmps38
    go_wp2_with fail
    go_loopg [17] l.length (fun g v17 wr => ∃ i : Nat, i ≤ l.length ∧ g = l.length - i ∧ v17 = .int .i64 i ∧ eqQ Ms.eqB l m = eqQ Ms.eqB (l.drop i) (m.drop i) ∧ Kn w wr)
    case atStart => exact ⟨0, Nat.zero_le _, rfl, rfl, rfl, Kp.refl _ _⟩
    case round =>
      obtain ⟨i, hi, rfl, rfl, heq, hkr⟩ := hrel
      have HKR := Lib.hid hkr
      have HEQ := Lib.hid heq
      clear hkr heq
      by_cases hil : i < l.length
      · have him : i < m.length := by have := hlen2.out; omega
        obtain ⟨g1, ys, G1, rfl, hml, hcell⟩ := row_at (f := (Ms.dv Ty0)) (k := 8) (fun ⟨_, _, _, _, _, _, _, _⟩ => by unfold Ms.dv; rfl) (Mem.stays HL.out fun g hg => HKR.out.block g (Mem.lt HL.out g hg).2 (fun f => f)) hil
        obtain ⟨g2, zs, G2, rfl, hmm, hcelm⟩ := row_at (f := (Ms.dv Ty0)) (k := 8) (fun ⟨_, _, _, _, _, _, _, _⟩ => by unfold Ms.dv; rfl) (Mem.stays HM.out fun g hg => HKR.out.block g (Mem.lt HM.out g hg).2 (fun f => f)) him
        have hin := List.getElem_mem hil
        have HST := Lib.hid (HEQ.out.trans (eqQ_step Ms.eqB hil him))
        have HIN := Lib.hid hin
        clear hin
        generalize l[i] = x at *
        generalize m[i] = y at *
        obtain ⟨A2, c2, F2, A3, c3, F3, A4, c4, F4, A5, c5, F5, A6, c6, F6, A7, c7, F7, rfl, -⟩ := Ms.q hml
        obtain ⟨D2, d2, H2, D3, d3, H3, D4, d4, H4, D5, d5, H5, D6, d6, H6, D7, d7, H7, rfl, -⟩ := Ms.q hmm
        have r0 := hcell 0 (by decide)
        have s0 := hcelm 0 (by decide)
        have r1 := hcell 1 (by decide)
        have s1 := hcelm 1 (by decide)
        have r2 := hcell 2 (by decide)
        have s2 := hcelm 2 (by decide)
        have r3 := hcell 3 (by decide)
        have s3 := hcelm 3 (by decide)
        have r4 := hcell 4 (by decide)
        have s4 := hcelm 4 (by decide)
        have r5 := hcell 5 (by decide)
        have s5 := hcelm 5 (by decide)
        have r6 := hcell 6 (by decide)
        have s6 := hcelm 6 (by decide)
        have r7 := hcell 7 (by decide)
        have s7 := hcelm 7 (by decide)
        simp only [List.getElem?_cons_zero, List.getElem?_cons_succ, Nat.add_zero] at r0 s0 r1 s1 r2 s2 r3 s3 r4 s4 r5 s5 r6 s6 r7 s7
        have s0a := cell_al (o := .cells #[.string x.name, .int .i64 x.at_, .slice A2 x.flds.length c2, .slice A3 x.onos.length c3, .slice A4 x.msgs.length c4, .slice A5 x.enums.length c5, .slice A6 x.rngs.length c6, .slice A7 x.nams.length c7] 49) s0
        have s1a := cell_al (o := .cells #[.string x.name, .int .i64 x.at_, .slice A2 x.flds.length c2, .slice A3 x.onos.length c3, .slice A4 x.msgs.length c4, .slice A5 x.enums.length c5, .slice A6 x.rngs.length c6, .slice A7 x.nams.length c7] 49) s1
        have s2a := cell_al (o := .cells #[.string x.name, .int .i64 x.at_, .slice A2 x.flds.length c2, .slice A3 x.onos.length c3, .slice A4 x.msgs.length c4, .slice A5 x.enums.length c5, .slice A6 x.rngs.length c6, .slice A7 x.nams.length c7] 49) s2
        have s3a := cell_al (o := .cells #[.string x.name, .int .i64 x.at_, .slice A2 x.flds.length c2, .slice A3 x.onos.length c3, .slice A4 x.msgs.length c4, .slice A5 x.enums.length c5, .slice A6 x.rngs.length c6, .slice A7 x.nams.length c7] 49) s3
        have s4a := cell_al (o := .cells #[.string x.name, .int .i64 x.at_, .slice A2 x.flds.length c2, .slice A3 x.onos.length c3, .slice A4 x.msgs.length c4, .slice A5 x.enums.length c5, .slice A6 x.rngs.length c6, .slice A7 x.nams.length c7] 49) s4
        have s5a := cell_al (o := .cells #[.string x.name, .int .i64 x.at_, .slice A2 x.flds.length c2, .slice A3 x.onos.length c3, .slice A4 x.msgs.length c4, .slice A5 x.enums.length c5, .slice A6 x.rngs.length c6, .slice A7 x.nams.length c7] 49) s5
        have s6a := cell_al (o := .cells #[.string x.name, .int .i64 x.at_, .slice A2 x.flds.length c2, .slice A3 x.onos.length c3, .slice A4 x.msgs.length c4, .slice A5 x.enums.length c5, .slice A6 x.rngs.length c6, .slice A7 x.nams.length c7] 49) s6
        have s7a := cell_al (o := .cells #[.string x.name, .int .i64 x.at_, .slice A2 x.flds.length c2, .slice A3 x.onos.length c3, .slice A4 x.msgs.length c4, .slice A5 x.enums.length c5, .slice A6 x.rngs.length c6, .slice A7 x.nams.length c7] 49) s7
        clear s0 s1 s2 s3 s4 s5 s6 s7
        have HCA := Lib.hid (HSUB.out _ HIN.out _ _ _ _ _ _ (hml.kn (((Kp.refl (fun _ => False) wr).alloc (.cells #[.string x.name, .int .i64 x.at_, .slice A2 x.flds.length c2, .slice A3 x.onos.length c3, .slice A4 x.msgs.length c4, .slice A5 x.enums.length c5, .slice A6 x.rngs.length c6, .slice A7 x.nams.length c7] 49)).alloc (.cells #[.string y.name, .int .i64 y.at_, .slice D2 y.flds.length d2, .slice D3 y.onos.length d3, .slice D4 y.msgs.length d4, .slice D5 y.enums.length d5, .slice D6 y.rngs.length d6, .slice D7 y.nams.length d7] 49))) (hmm.kn (((Kp.refl (fun _ => False) wr).alloc (.cells #[.string x.name, .int .i64 x.at_, .slice A2 x.flds.length c2, .slice A3 x.onos.length c3, .slice A4 x.msgs.length c4, .slice A5 x.enums.length c5, .slice A6 x.rngs.length c6, .slice A7 x.nams.length c7] 49)).alloc (.cells #[.string y.name, .int .i64 y.at_, .slice D2 y.flds.length d2, .slice D3 y.onos.length d3, .slice D4 y.msgs.length d4, .slice D5 y.enums.length d5, .slice D6 y.rngs.length d6, .slice D7 y.nams.length d7] 49))))
        clear hcell hcelm hml hmm HEQ
        have hil' : (i : Int) < (l.length : Int) := by omega
        have him' : (i : Int) < (m.length : Int) := by omega
        go_wp2_with fail
        refine HCA.out.mono ?_
        rintro e w4 ⟨rfl, hk4⟩
        have HK4 := Lib.hid hk4
        clear hk4
        cases hb : x.eqB y
        · go_wp2_with fail
          refine bodyPost_ret (v := .bool false) (by simp [results, Tryz.results38, go_sem]) rfl ⟨by rw [HST.out, hb]; rfl, ((HKR.out.alloc _).alloc _).trans HK4.out⟩
        · go_wp2_with fail
          go_roundg (l.length - (i + 1))
          case measure => omega
          case rel => exact ⟨i + 1, by omega, rfl, by go_num, by rw [HST.out, hb, Bool.true_and], ((HKR.out.alloc _).alloc _).trans HK4.out⟩
      · go_wp2_with fail
        refine bodyPost_ret (v := .bool true) (by simp [results, Tryz.results38, go_sem]) rfl ⟨by rw [HEQ.out, eqQ_end _ (by omega) (by have := hlen2.out; omega)], HKR.out⟩
  · have hlen' : ¬ (l.length : Int) = (m.length : Int) := by omega
    rw [eqQ_len _ hlen]
    go_enter Tryz.func38, Tryz.ntmps38
    go_wp2_with fail
    refine bodyPost_ret (v := .bool false) (by simp [results, Tryz.results38, go_sem]) rfl ⟨rfl, Kp.refl _ _⟩
set_option maxRecDepth 100000 in
set_option maxHeartbeats 4000000 in
theorem sameMsg_step {x y : Ms} {w : World} {B B' : Nat} {xs ys : List Value} {G G' : List Nat} (hx : MemL w B (Ms.dv Ty0 x) xs G) (hy : MemL w B' (Ms.dv Ty0 y) ys G') (hsub : ∀ z ∈ x.msgs, ∀ (u : Ms) (W : World) (zs us : List Value) (G G' : List Nat), MemL W B (Ms.dv Ty0 z) zs G → MemL W B' (Ms.dv Ty0 u) us G' → Calls Tryz.prog 39 #[.agg zs.toArray, .agg us.toArray] W fun e W' => e = .returned (.bool (z.eqB u)) ∧ Kn W W') :
    Calls Tryz.prog 39 #[.agg xs.toArray, .agg ys.toArray] w fun e w' => e = .returned (.bool (x.eqB y)) ∧ Kn w w' := by
  obtain ⟨A2, c2, F2, A3, c3, F3, A4, c4, F4, A5, c5, F5, A6, c6, F6, A7, c7, F7, rfl, x2, x3, x4, x5, x6, x7⟩ := Ms.q hx
  obtain ⟨D2, d2, H2, D3, d3, H3, D4, d4, H4, D5, d5, H5, D6, d6, H6, D7, d7, H7, rfl, y2, y3, y4, y5, y6, y7⟩ := Ms.q hy
  have HSUB := Lib.hid hsub
  clear hsub
  have HK := Lib.hid (((Kp.refl (fun _ => False) w).alloc (.cells #[.string x.name, .int .i64 x.at_, .slice A2 x.flds.length c2, .slice A3 x.onos.length c3, .slice A4 x.msgs.length c4, .slice A5 x.enums.length c5, .slice A6 x.rngs.length c6, .slice A7 x.nams.length c7] 49)).alloc (.cells #[.string y.name, .int .i64 y.at_, .slice D2 y.flds.length d2, .slice D3 y.onos.length d3, .slice D4 y.msgs.length d4, .slice D5 y.enums.length d5, .slice D6 y.rngs.length d6, .slice D7 y.nams.length d7] 49))
  have HX := Lib.hid ((Blk.new w 49 #[.string x.name, .int .i64 x.at_, .slice A2 x.flds.length c2, .slice A3 x.onos.length c3, .slice A4 x.msgs.length c4, .slice A5 x.enums.length c5, .slice A6 x.rngs.length c6, .slice A7 x.nams.length c7]).alloc (.cells #[.string y.name, .int .i64 y.at_, .slice D2 y.flds.length d2, .slice D3 y.onos.length d3, .slice D4 y.msgs.length d4, .slice D5 y.enums.length d5, .slice D6 y.rngs.length d6, .slice D7 y.nams.length d7] 49))
  have HY := Lib.hid (show Blk _ (w.heap.size + 1) _ _ by have := Blk.new (w.alloc (.cells #[.string x.name, .int .i64 x.at_, .slice A2 x.flds.length c2, .slice A3 x.onos.length c3, .slice A4 x.msgs.length c4, .slice A5 x.enums.length c5, .slice A6 x.rngs.length c6, .slice A7 x.nams.length c7] 49)) 49 #[.string y.name, .int .i64 y.at_, .slice D2 y.flds.length d2, .slice D3 y.onos.length d3, .slice D4 y.msgs.length d4, .slice D5 y.enums.length d5, .slice D6 y.rngs.length d6, .slice D7 y.nams.length d7]; simpa using this)
  have X2 := Lib.hid x2
  have Y2 := Lib.hid y2
  have X3 := Lib.hid x3
  have Y3 := Lib.hid y3
  have X4 := Lib.hid x4
  have Y4 := Lib.hid y4
  have X5 := Lib.hid x5
  have Y5 := Lib.hid y5
  have X6 := Lib.hid x6
  have Y6 := Lib.hid y6
  have X7 := Lib.hid x7
  have Y7 := Lib.hid y7
  clear hx hy x2 y2 x3 y3 x4 y4 x5 y5 x6 y6 x7 y7
  rw [Ms.eqB_parts]
  by_cases hn : x.name = y.name
  · have hn' : x.name.toList = y.name.toList := by rw [hn]
    have HN := Lib.hid hn
    clear hn
    go_enter Tryz.func39, Tryz.ntmps39
    go_wp2_with fail
    refine (eqFd_any (X2.out.kn HK.out) (Y2.out.kn HK.out)).mono ?_
    rintro e w1 ⟨rfl, hk1⟩
    have HK1 := Lib.hid ((HK.out).trans hk1)
    have HX1 := Lib.hid (HX.out.kp hk1 (fun f => f))
    have HY1 := Lib.hid (HY.out.kp hk1 (fun f => f))
    clear hk1
    cases hb1 : eqQ Fd.eqB x.flds y.flds
    · go_wp2_with fail
      refine bodyPost_ret (v := .bool false) (by simp [results, Tryz.results39, go_sem]) rfl ⟨by simp [HN.out, hb1], HK1.out⟩
    · have q1 := HX1.out.cell 3
      have p1 := HY1.out.cell 3
      simp only [List.getElem?_toArray, List.getElem?_cons_zero, List.getElem?_cons_succ] at q1 p1
      go_wp2_with fail
      refine (eqTx_any (X3.out.kn HK1.out) (Y3.out.kn HK1.out)).mono ?_
      rintro e w2 ⟨rfl, hk2⟩
      have HK2 := Lib.hid ((HK1.out).trans hk2)
      have HX2 := Lib.hid (HX1.out.kp hk2 (fun f => f))
      have HY2 := Lib.hid (HY1.out.kp hk2 (fun f => f))
      clear hk2 q1 p1
      cases hb2 : eqQ Tx.eqB x.onos y.onos
      · go_wp2_with fail
        refine bodyPost_ret (v := .bool false) (by simp [results, Tryz.results39, go_sem]) rfl ⟨by simp [HN.out, hb1, hb2], HK2.out⟩
      · have q2 := HX2.out.cell 4
        have p2 := HY2.out.cell 4
        simp only [List.getElem?_toArray, List.getElem?_cons_zero, List.getElem?_cons_succ] at q2 p2
        go_wp2_with fail
        refine (eqMs_any (X4.out.kn HK2.out) (Y4.out.kn HK2.out) HSUB.out).mono ?_
        rintro e w3 ⟨rfl, hk3⟩
        have HK3 := Lib.hid ((HK2.out).trans hk3)
        have HX3 := Lib.hid (HX2.out.kp hk3 (fun f => f))
        have HY3 := Lib.hid (HY2.out.kp hk3 (fun f => f))
        clear hk3 q2 p2
        cases hb3 : eqQ Ms.eqB x.msgs y.msgs
        · go_wp2_with fail
          refine bodyPost_ret (v := .bool false) (by simp [results, Tryz.results39, go_sem]) rfl ⟨by simp [HN.out, hb1, hb2, hb3], HK3.out⟩
        · have q3 := HX3.out.cell 5
          have p3 := HY3.out.cell 5
          simp only [List.getElem?_toArray, List.getElem?_cons_zero, List.getElem?_cons_succ] at q3 p3
          go_wp2_with fail
          refine (eqEn_any (X5.out.kn HK3.out) (Y5.out.kn HK3.out)).mono ?_
          rintro e w4 ⟨rfl, hk4⟩
          have HK4 := Lib.hid ((HK3.out).trans hk4)
          have HX4 := Lib.hid (HX3.out.kp hk4 (fun f => f))
          have HY4 := Lib.hid (HY3.out.kp hk4 (fun f => f))
          clear hk4 q3 p3
          cases hb4 : eqQ En.eqB x.enums y.enums
          · go_wp2_with fail
            refine bodyPost_ret (v := .bool false) (by simp [results, Tryz.results39, go_sem]) rfl ⟨by simp [HN.out, hb1, hb2, hb3, hb4], HK4.out⟩
          · have q4 := HX4.out.cell 6
            have p4 := HY4.out.cell 6
            simp only [List.getElem?_toArray, List.getElem?_cons_zero, List.getElem?_cons_succ] at q4 p4
            go_wp2_with fail
            refine (eqSp_any (X6.out.kn HK4.out) (Y6.out.kn HK4.out)).mono ?_
            rintro e w5 ⟨rfl, hk5⟩
            have HK5 := Lib.hid ((HK4.out).trans hk5)
            have HX5 := Lib.hid (HX4.out.kp hk5 (fun f => f))
            have HY5 := Lib.hid (HY4.out.kp hk5 (fun f => f))
            clear hk5 q4 p4
            cases hb5 : eqQ Sp.eqB x.rngs y.rngs
            · go_wp2_with fail
              refine bodyPost_ret (v := .bool false) (by simp [results, Tryz.results39, go_sem]) rfl ⟨by simp [HN.out, hb1, hb2, hb3, hb4, hb5], HK5.out⟩
            · have q5 := HX5.out.cell 7
              have p5 := HY5.out.cell 7
              simp only [List.getElem?_toArray, List.getElem?_cons_zero, List.getElem?_cons_succ] at q5 p5
              go_wp2_with fail
              refine (eqTx_any (X7.out.kn HK5.out) (Y7.out.kn HK5.out)).mono ?_
              rintro e w6 ⟨rfl, hk6⟩
              have HK6 := Lib.hid ((HK5.out).trans hk6)
              have HX6 := Lib.hid (HX5.out.kp hk6 (fun f => f))
              have HY6 := Lib.hid (HY5.out.kp hk6 (fun f => f))
              clear hk6 q5 p5
              cases hb6 : eqQ Tx.eqB x.nams y.nams
              · go_wp2_with fail
                refine bodyPost_ret (v := .bool false) (by simp [results, Tryz.results39, go_sem]) rfl ⟨by simp [HN.out, hb1, hb2, hb3, hb4, hb5, hb6], HK6.out⟩
              · go_wp2_with fail
                refine bodyPost_ret (v := .bool true) (by simp [results, Tryz.results39, go_sem]) rfl ⟨by simp [HN.out, hb1, hb2, hb3, hb4, hb5, hb6], HK6.out⟩
  · have hn' : ¬ x.name.toList = y.name.toList := by rw [tl_iff]; exact hn
    go_enter Tryz.func39, Tryz.ntmps39
    go_wp2_with fail
    refine bodyPost_ret (v := .bool false) (by simp [results, Tryz.results39, go_sem]) rfl ⟨by simp [hn], HK.out⟩
theorem Ms.sub_lt {m z : Ms} (h : z ∈ m.msgs) : SizeOf.sizeOf z < SizeOf.sizeOf m := by
  have := List.sizeOf_lt_of_mem h
  cases m
  simp only [Ms.mk.sizeOf_spec] at this ⊢
  omega
theorem sameMsg_n (B B' : Nat) : ∀ (n : Nat) (x y : Ms) (w : World) (xs ys : List Value) (G G' : List Nat), SizeOf.sizeOf x < n → MemL w B (Ms.dv Ty0 x) xs G → MemL w B' (Ms.dv Ty0 y) ys G' → Calls Tryz.prog 39 #[.agg xs.toArray, .agg ys.toArray] w fun e w' => e = .returned (.bool (x.eqB y)) ∧ Kn w w'
  | 0, x, y, w, xs, ys, G, G', h, hx, hy => absurd h (Nat.not_lt_zero _)
  | n + 1, x, y, w, xs, ys, G, G', h, hx, hy => sameMsg_step hx hy fun z hz u W zs us G G' h1 h2 => sameMsg_n B B' n z u W zs us G G' (by have := Ms.sub_lt hz; omega) h1 h2
theorem sameMsg_any {x y : Ms} {w : World} {B B' : Nat} {xs ys : List Value} {G G' : List Nat} (hx : MemL w B (Ms.dv Ty0 x) xs G) (hy : MemL w B' (Ms.dv Ty0 y) ys G') : Calls Tryz.prog 39 #[.agg xs.toArray, .agg ys.toArray] w fun e w' => e = .returned (.bool (x.eqB y)) ∧ Kn w w' := sameMsg_n B B' _ x y w xs ys G G' (Nat.lt_succ_self _) hx hy
theorem Tr.q {w : World} {B : Nat} {x : Tr} {xs : List Value} {F : List Nat} (h : MemL w B (Tr.dv Ty0 x) xs F) : ∃ A1 c1 F1 A2 c2 F2 A3 c3 F3 A4 c4 F4, xs = [.string x.pkg, .slice A1 x.imps.length c1, .slice A2 x.msgs.length c2, .slice A3 x.enums.length c3, .slice A4 x.svcs.length c4] ∧ Mem w B (lsD 37 3 Im.dv x.imps) (.slice A1 x.imps.length c1) F1 ∧ Mem w B (lsD 49 8 (Ms.dv Ty0) x.msgs) (.slice A2 x.msgs.length c2) F2 ∧ Mem w B (lsD 52 5 (En.dv Ty0) x.enums) (.slice A3 x.enums.length c3) F3 ∧ Mem w B (lsD 86 3 (Sv.dv Ty0) x.svcs) (.slice A4 x.svcs.length c4) F4 := by
  unfold Tr.dv at h
  cases h with
  | cons d v0 F0 ds vs G h0 h =>
  cases h with
  | cons d v1 F1 ds vs G h1 h =>
  cases h with
  | cons d v2 F2 ds vs G h2 h =>
  cases h with
  | cons d v3 F3 ds vs G h3 h =>
  cases h with
  | cons d v4 F4 ds vs G h4 h =>
  cases h with
  | nil =>
  obtain rfl := h0.at_q
  obtain ⟨A1, c1, rfl, _⟩ := h1.sl_q
  obtain ⟨A2, c2, rfl, _⟩ := h2.sl_q
  obtain ⟨A3, c3, rfl, _⟩ := h3.sl_q
  obtain ⟨A4, c4, rfl, _⟩ := h4.sl_q
  exact ⟨A1, c1, F1, A2, c2, F2, A3, c3, F3, A4, c4, F4, rfl, h1, h2, h3, h4⟩
set_option maxRecDepth 100000 in
set_option maxHeartbeats 4000000 in
theorem same_any {x y : Tr} {w : World} {B B' : Nat} {xs ys : List Value} {G G' : List Nat} (hx : MemL w B (Tr.dv Ty0 x) xs G) (hy : MemL w B' (Tr.dv Ty0 y) ys G') :
    Calls Tryz.prog 10 #[.agg xs.toArray, .agg ys.toArray] w fun e w' => e = .returned (.bool (x.eqB y)) ∧ Kn w w' := by
  obtain ⟨A1, c1, F1, A2, c2, F2, A3, c3, F3, A4, c4, F4, rfl, x1, x2, x3, x4⟩ := Tr.q hx
  obtain ⟨D1, d1, H1, D2, d2, H2, D3, d3, H3, D4, d4, H4, rfl, y1, y2, y3, y4⟩ := Tr.q hy
  have HK := Lib.hid (((Kp.refl (fun _ => False) w).alloc (.cells #[.string x.pkg, .slice A1 x.imps.length c1, .slice A2 x.msgs.length c2, .slice A3 x.enums.length c3, .slice A4 x.svcs.length c4] 27)).alloc (.cells #[.string y.pkg, .slice D1 y.imps.length d1, .slice D2 y.msgs.length d2, .slice D3 y.enums.length d3, .slice D4 y.svcs.length d4] 27))
  have HX := Lib.hid ((Blk.new w 27 #[.string x.pkg, .slice A1 x.imps.length c1, .slice A2 x.msgs.length c2, .slice A3 x.enums.length c3, .slice A4 x.svcs.length c4]).alloc (.cells #[.string y.pkg, .slice D1 y.imps.length d1, .slice D2 y.msgs.length d2, .slice D3 y.enums.length d3, .slice D4 y.svcs.length d4] 27))
  have HY := Lib.hid (show Blk _ (w.heap.size + 1) _ _ by have := Blk.new (w.alloc (.cells #[.string x.pkg, .slice A1 x.imps.length c1, .slice A2 x.msgs.length c2, .slice A3 x.enums.length c3, .slice A4 x.svcs.length c4] 27)) 27 #[.string y.pkg, .slice D1 y.imps.length d1, .slice D2 y.msgs.length d2, .slice D3 y.enums.length d3, .slice D4 y.svcs.length d4]; simpa using this)
  have X1 := Lib.hid x1
  have Y1 := Lib.hid y1
  have X2 := Lib.hid x2
  have Y2 := Lib.hid y2
  have X3 := Lib.hid x3
  have Y3 := Lib.hid y3
  have X4 := Lib.hid x4
  have Y4 := Lib.hid y4
  clear hx hy x1 y1 x2 y2 x3 y3 x4 y4
  unfold Tr.eqB
  by_cases hn : x.pkg = y.pkg
  · have hn' : x.pkg.toList = y.pkg.toList := by rw [hn]
    have HN := Lib.hid hn
    clear hn
    go_enter Tryz.func10, Tryz.ntmps10
    go_wp2_with fail
    refine (eqIm_any (X1.out.kn HK.out) (Y1.out.kn HK.out)).mono ?_
    rintro e w1 ⟨rfl, hk1⟩
    have HK1 := Lib.hid ((HK.out).trans hk1)
    have HX1 := Lib.hid (HX.out.kp hk1 (fun f => f))
    have HY1 := Lib.hid (HY.out.kp hk1 (fun f => f))
    clear hk1
    cases hb1 : eqQ Im.eqB x.imps y.imps
    · go_wp2_with fail
      refine bodyPost_ret (v := .bool false) (by simp [results, Tryz.results10, go_sem]) rfl ⟨by simp [HN.out, hb1], HK1.out⟩
    · have q1 := HX1.out.cell 2
      have p1 := HY1.out.cell 2
      simp only [List.getElem?_toArray, List.getElem?_cons_zero, List.getElem?_cons_succ] at q1 p1
      go_wp2_with fail
      refine (eqMs_any (X2.out.kn HK1.out) (Y2.out.kn HK1.out) fun z _ u W zs us G G' h1 h2 => sameMsg_any h1 h2).mono ?_
      rintro e w2 ⟨rfl, hk2⟩
      have HK2 := Lib.hid ((HK1.out).trans hk2)
      have HX2 := Lib.hid (HX1.out.kp hk2 (fun f => f))
      have HY2 := Lib.hid (HY1.out.kp hk2 (fun f => f))
      clear hk2 q1 p1
      cases hb2 : eqQ Ms.eqB x.msgs y.msgs
      · go_wp2_with fail
        refine bodyPost_ret (v := .bool false) (by simp [results, Tryz.results10, go_sem]) rfl ⟨by simp [HN.out, hb1, hb2], HK2.out⟩
      · have q2 := HX2.out.cell 3
        have p2 := HY2.out.cell 3
        simp only [List.getElem?_toArray, List.getElem?_cons_zero, List.getElem?_cons_succ] at q2 p2
        go_wp2_with fail
        refine (eqEn_any (X3.out.kn HK2.out) (Y3.out.kn HK2.out)).mono ?_
        rintro e w3 ⟨rfl, hk3⟩
        have HK3 := Lib.hid ((HK2.out).trans hk3)
        have HX3 := Lib.hid (HX2.out.kp hk3 (fun f => f))
        have HY3 := Lib.hid (HY2.out.kp hk3 (fun f => f))
        clear hk3 q2 p2
        cases hb3 : eqQ En.eqB x.enums y.enums
        · go_wp2_with fail
          refine bodyPost_ret (v := .bool false) (by simp [results, Tryz.results10, go_sem]) rfl ⟨by simp [HN.out, hb1, hb2, hb3], HK3.out⟩
        · have q3 := HX3.out.cell 4
          have p3 := HY3.out.cell 4
          simp only [List.getElem?_toArray, List.getElem?_cons_zero, List.getElem?_cons_succ] at q3 p3
          go_wp2_with fail
          refine (eqSv_any (X4.out.kn HK3.out) (Y4.out.kn HK3.out)).mono ?_
          rintro e w4 ⟨rfl, hk4⟩
          have HK4 := Lib.hid ((HK3.out).trans hk4)
          have HX4 := Lib.hid (HX3.out.kp hk4 (fun f => f))
          have HY4 := Lib.hid (HY3.out.kp hk4 (fun f => f))
          clear hk4 q3 p3
          cases hb4 : eqQ Sv.eqB x.svcs y.svcs
          · go_wp2_with fail
            refine bodyPost_ret (v := .bool false) (by simp [results, Tryz.results10, go_sem]) rfl ⟨by simp [HN.out, hb1, hb2, hb3, hb4], HK4.out⟩
          · go_wp2_with fail
            refine bodyPost_ret (v := .bool true) (by simp [results, Tryz.results10, go_sem]) rfl ⟨by simp [HN.out, hb1, hb2, hb3, hb4], HK4.out⟩
  · have hn' : ¬ x.pkg.toList = y.pkg.toList := by rw [tl_iff]; exact hn
    go_enter Tryz.func10, Tryz.ntmps10
    go_wp2_with fail
    refine bodyPost_ret (v := .bool false) (by simp [results, Tryz.results10, go_sem]) rfl ⟨by simp [hn], HK.out⟩
end
end Go.Proofs.YthmdaejlopjjoaaGreatDoor
