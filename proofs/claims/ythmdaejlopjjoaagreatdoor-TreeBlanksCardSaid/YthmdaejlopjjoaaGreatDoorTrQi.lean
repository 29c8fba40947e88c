/-
  tree: copies: messages, files.
-/
import Derived.Test.YthmdaejlopjjoaaGreatDoorCpA
namespace Go.Proofs.YthmdaejlopjjoaaGreatDoor
open Go.RowKit
set_option linter.unusedVariables false
set_option linter.unusedSimpArgs false

theorem Tryz.info49q : (Tryz.prog.info? 49).map (fun i => (i.zero, i.size, i.bytes)) = some (some (.agg #[.string ⟨#[]⟩, .int .i64 0, .slice none 0 0, .slice none 0 0, .slice none 0 0, .slice none 0 0, .slice none 0 0, .slice none 0 0]), 8, 168) := by kernel_rfl
theorem Ms.len_q (x : Ms) : (Ms.dv Ty0 x).length = 8 := by cases x; unfold Ms.dv; rfl
theorem arr_Ms {vs : Array Value} (h : vs.toList.length = 8) : ∃ z0 z1 z2 z3 z4 z5 z6 z7, vs = #[z0, z1, z2, z3, z4, z5, z6, z7] := by
  obtain ⟨l⟩ := vs
  match l, h with
  | [z0, z1, z2, z3, z4, z5, z6, z7], _ => exact ⟨z0, z1, z2, z3, z4, z5, z6, z7, rfl⟩
set_option maxRecDepth 100000 in
set_option maxHeartbeats 4000000 in
theorem eachMs_bare {w : World} {B c : Nat} {l : List Ms} {A : Option Addr} {F : List Nat} (hl : Mem w B (lsD 49 8 (Ms.dv Ty0) l) (.slice A l.length c) F) (hf : Ls Ms.Few l) (hsub : ∀ z ∈ l, ∀ (W : World) (zs : List Value) (B : Nat) (G : List Nat), MemL W B (Ms.dv Ty0 z) zs G → z.Few → Calls Tryz.prog 85 #[.func (.func 49) #[] #[], .agg zs.toArray] W fun e W' => ∃ vs G, e = .returned (.agg vs) ∧ MemL W' W.heap.size (Ms.dv Ty0 (Ms.bare z)) vs.toList G ∧ Kn W W') :
    Calls Tryz.prog 84 #[.slice A l.length c, .func (.func 85) #[.func (.func 49) #[] #[]] #[]] w fun e w' => ∃ v G, e = .returned v ∧ Mem w' w.heap.size (lsD 49 8 (Ms.dv Ty0) (l.map Ms.bare)) v G ∧ Kn w w' := by
  have HL := Lib.hid hl
  have HF := Lib.hid hf
  have HSUB := Lib.hid hsub
  clear hsub
  have hl2 : (l.length : Int) ≤ 128 := by have := hf.len; omega
  clear hl hf
  obtain ⟨i0, hi0, hz0, hz1, hz2⟩ := info_parts Tryz.info49q
  go_enter Tryz.func84, Tryz.ntmps84
  go_wp2_with fail
  go_loopg [5, 10] l.length (fun g v5 v10 wr => ∃ (i : Nat) (C : List Nat), i ≤ l.length ∧ g = l.length - i ∧ v10 = .int .i64 i ∧ Rows_ wr w.heap.size [⟨49, 8, i, ((l.take i).map Ms.bare).flatMap (Ms.dv Ty0), v5⟩] C ∧ Kn w wr)
  case atStart => exact ⟨0, [], Nat.zero_le _, rfl, rfl, Rows_.nils w w.heap.size [(49, 8)], Kp.refl _ _⟩
  case round =>
    obtain ⟨i, C, hi, rfl, rfl, hrw, hkr⟩ := hrel
    have HKR := Lib.hid hkr
    have HRW := Lib.hid hrw
    clear hkr hrw
    by_cases hil : i < l.length
    · obtain ⟨g1, ys, G1, rfl, hml, hcell⟩ := row_at (f := (Ms.dv Ty0)) (k := 8) (fun ⟨_, _, _, _, _, _, _, _⟩ => by unfold Ms.dv; rfl) (Mem.stays HL.out fun g hg => HKR.out.block g (Mem.lt HL.out g hg).2 (fun f => f)) hil
      have hin := List.getElem_mem hil
      have hx := HF.out.all _ hin
      have HTK := Lib.hid (List.take_succ_eq_append_getElem hil)
      generalize l[i] = x at *
      obtain ⟨A2, c2, F2, A3, c3, F3, A4, c4, F4, A5, c5, F5, A6, c6, F6, A7, c7, F7, rfl, -⟩ := Ms.q hml
      have r0 := hcell 0 (by decide)
      have r1 := hcell 1 (by decide)
      have r2 := hcell 2 (by decide)
      have r3 := hcell 3 (by decide)
      have r4 := hcell 4 (by decide)
      have r5 := hcell 5 (by decide)
      have r6 := hcell 6 (by decide)
      have r7 := hcell 7 (by decide)
      simp only [List.getElem?_cons_zero, List.getElem?_cons_succ, Nat.add_zero] at r0 r1 r2 r3 r4 r5 r6 r7
      have hil' : (i : Int) < (l.length : Int) := by omega
      have HC := Lib.hid (HSUB.out _ hin _ _ _ _ (hml.kn ((Kp.refl (fun _ => False) wr).alloc (.cells #[.string x.name, .int .i64 x.at_, .slice A2 x.flds.length c2, .slice A3 x.onos.length c3, .slice A4 x.msgs.length c4, .slice A5 x.enums.length c5, .slice A6 x.rngs.length c6, .slice A7 x.nams.length c7] 49))) hx)
      clear hx hin hml hcell
      go_wp2_with fail
      refine HC.out.mono ?_
      rintro e w4 ⟨vs, G4, rfl, hm4, hk4⟩
      obtain ⟨z0, z1, z2, z3, z4, z5, z6, z7, rfl⟩ := arr_Ms (by rw [MemL.len hm4]; exact Ms.len_q _)
      have ho4 := MemL.one hm4
      have HK4 := Lib.hid ((HKR.out.alloc (.cells #[.string x.name, .int .i64 x.at_, .slice A2 x.flds.length c2, .slice A3 x.onos.length c3, .slice A4 x.msgs.length c4, .slice A5 x.enums.length c5, .slice A6 x.rngs.length c6, .slice A7 x.nams.length c7] 49)).trans hk4)
      have HRW4 := Lib.hid (((HRW.out.alloc (.cells #[.string x.name, .int .i64 x.at_, .slice A2 x.flds.length c2, .slice A3 x.onos.length c3, .slice A4 x.msgs.length c4, .slice A5 x.enums.length c5, .slice A6 x.rngs.length c6, .slice A7 x.nams.length c7] 49)).kp hk4 (fun g f => f.elim)).alloc (.cells #[z0, z1, z2, z3, z4, z5, z6, z7] 49))
      have HM4 := Lib.hid (MemL.base (B' := w.heap.size) (by have := HKR.out.size; simp; omega) (hm4.kn ((Kp.refl (fun _ => False) w4).alloc (.cells #[z0, z1, z2, z3, z4, z5, z6, z7] 49))))
      have HG4 := Lib.hid (show ∀ g ∈ G4, g ∉ owns [(⟨49, 8, i, ((l.take i).map Ms.bare).flatMap (Ms.dv Ty0), _⟩ : Rw)] from fun g hg hm => by
        have h1 := (MemL.lt hm4 g hg).1
        have h2 := (HRW.out.own_lt g hm).2
        simp at h1
        omega)
      have hBz : w.heap.size ≤ (w4.alloc (.cells #[z0, z1, z2, z3, z4, z5, z6, z7] 49)).heap.size := by have := HK4.out.size; simp; omega
      have hal : i ≤ 1000000 := by omega
      have o0 : z0.oneCell' = true := ho4 z0 (by simp)
      have o1 : z1.oneCell' = true := ho4 z1 (by simp)
      have o2 : z2.oneCell' = true := ho4 z2 (by simp)
      have o3 : z3.oneCell' = true := ho4 z3 (by simp)
      have o4 : z4.oneCell' = true := ho4 z4 (by simp)
      have o5 : z5.oneCell' = true := ho4 z5 (by simp)
      have o6 : z6.oneCell' = true := ho4 z6 (by simp)
      have o7 : z7.oneCell' = true := ho4 z7 (by simp)
      simp only [Value.oneCell'] at o0 o1 o2 o3 o4 o5 o6 o7
      clear hk4 HC hm4 ho4 r0 r1 r2 r3 r4 r5 r6 r7
      go_wp2_with (at_builtin; refine wpList_append_rows _ rfl _ _ 23 rfl HRW4.out 0 _ rfl i0 _ 168 Tryz.underlying23 hi0 hz0 hz1 hz2 rfl (Nat.succ_pos 7) rfl w4.heap.size rfl _ (Ms.dv Ty0 (Ms.bare x)) (Blk.new w4 49 _) rfl HM4.out HG4.out hal (by decide) hBz ?_; intro v5 w5 ho5 hg5 hv5; have HO5 := Lib.hid ho5; have HG5 := Lib.hid hg5; clear ho5 hg5 hv5)
      go_roundg (l.length - (i + 1))
      case measure => omega
      case rel =>
        refine ⟨i + 1, C ++ G4, by omega, rfl, by go_num, ?_, (HK4.out.alloc _).grown HG5.out fun q hq hlt => by have := (HRW4.out.own_mem (j := 0) rfl hq).2.1; omega⟩
        have h5 := HO5.out
        rw [HTK.out, List.map_append, List.flatMap_append]
        simpa using h5
    · go_wp2_with fail
      obtain ⟨G, hm, -⟩ := HRW.out.mem
      have hii : i = l.length := by omega
      subst hii
      rw [List.take_length] at hm
      cases hm with
      | cons d v F ds vs G h0 ht =>
      refine bodyPost_ret (v := _) (by simp [results, Tryz.results84, go_sem]; rfl) rfl ⟨_, F, rfl, ?_, HKR.out⟩
      unfold lsD
      rw [List.length_map]
      exact h0
def msgC_bareV (x : Ms) (q r : Nat) (A2 A3 A4 A5 A6 A7 : Option Addr) (c2 c3 c4 c5 c6 c7 : Nat) : Nat → Value → Prop
  | 0, v => v = .pointer (some ⟨q, 0, none⟩)
  | 1, v => v = .string x.name
  | 2, v => v = .string x.name
  | 3, v => v = .func (.func 49) #[] #[]
  | 4, v => v = .pointer (some ⟨q, 1, none⟩)
  | 5, v => v = .int .i64 x.at_
  | 6, v => v = .int .i64 (0)
  | 7, v => v = .pointer (some ⟨q, 2, none⟩)
  | 8, v => v = .slice A2 x.flds.length c2
  | 9, v => v = .func (.func 49) #[] #[]
  | 10, v => v = .func (.func 126) #[.func (.func 49) #[] #[]] #[]
  | 12, v => v = .pointer (some ⟨q, 3, none⟩)
  | 13, v => v = .slice A3 x.onos.length c3
  | 14, v => v = .func (.func 49) #[] #[]
  | 15, v => v = .func (.func 128) #[.func (.func 49) #[] #[]] #[]
  | 17, v => v = .pointer (some ⟨q, 4, none⟩)
  | 18, v => v = .slice A4 x.msgs.length c4
  | 19, v => v = .func (.func 49) #[] #[]
  | 20, v => v = .func (.func 85) #[.func (.func 49) #[] #[]] #[]
  | 22, v => v = .pointer (some ⟨q, 5, none⟩)
  | 23, v => v = .slice A5 x.enums.length c5
  | 24, v => v = .func (.func 49) #[] #[]
  | 25, v => v = .func (.func 87) #[.func (.func 49) #[] #[]] #[]
  | 27, v => v = .pointer (some ⟨q, 6, none⟩)
  | 28, v => v = .slice A6 x.rngs.length c6
  | 29, v => v = .func (.func 49) #[] #[]
  | 30, v => v = .func (.func 130) #[.func (.func 49) #[] #[]] #[]
  | 32, v => v = .pointer (some ⟨q, 7, none⟩)
  | 33, v => v = .slice A7 x.nams.length c7
  | 34, v => v = .func (.func 49) #[] #[]
  | 35, v => v = .func (.func 128) #[.func (.func 49) #[] #[]] #[]
  | _, _ => True
def msgC_bareP (x : Ms) (r B : Nat) (w1 : World) : Nat → (Nat → Value) → World → Prop
  | 11, d, W => ∃ G, Mem W B (lsD 97 10 Fd.dv (x.flds.map Fd.bare)) (d 11) G
  | 16, d, W => ∃ G, Mem W B (lsD 99 2 Tx.dv (x.onos.map Tx.bare)) (d 16) G
  | 21, d, W => ∃ G, Mem W B (lsD 49 8 (Ms.dv Ty0) (x.msgs.map Ms.bare)) (d 21) G
  | 26, d, W => ∃ G, Mem W B (lsD 52 5 (En.dv Ty0) (x.enums.map En.bare)) (d 26) G
  | 31, d, W => ∃ G, Mem W B (lsD 126 3 Sp.dv (x.rngs.map Sp.bare)) (d 31) G
  | 36, d, W => ∃ G, Mem W B (lsD 99 2 Tx.dv (x.nams.map Tx.bare)) (d 36) G
  | 37, d, W => d 37 = .agg #[.string x.name, .int .i64 (0), d 11, d 16, d 21, d 26, d 31, d 36]
  | 38, d, W => ∃ a2 b2 G2 a3 b3 G3 a4 b4 G4 a5 b5 G5 a6 b6 G6 a7 b7 G7, Blk W r 49 #[.string x.name, .int .i64 (0), .slice a2 x.flds.length b2, .slice a3 x.onos.length b3, .slice a4 x.msgs.length b4, .slice a5 x.enums.length b5, .slice a6 x.rngs.length b6, .slice a7 x.nams.length b7] ∧ Mem W B (lsD 97 10 Fd.dv (x.flds.map Fd.bare)) (.slice a2 x.flds.length b2) G2 ∧ Mem W B (lsD 99 2 Tx.dv (x.onos.map Tx.bare)) (.slice a3 x.onos.length b3) G3 ∧ Mem W B (lsD 49 8 (Ms.dv Ty0) (x.msgs.map Ms.bare)) (.slice a4 x.msgs.length b4) G4 ∧ Mem W B (lsD 52 5 (En.dv Ty0) (x.enums.map En.bare)) (.slice a5 x.enums.length b5) G5 ∧ Mem W B (lsD 126 3 Sp.dv (x.rngs.map Sp.bare)) (.slice a6 x.rngs.length b6) G6 ∧ Mem W B (lsD 99 2 Tx.dv (x.nams.map Tx.bare)) (.slice a7 x.nams.length b7) G7 ∧ Kp (fun k => k = r) w1 W
  | 39, _, W => Kn w1 W
  | _, _, _ => True
def msgC_bareF (r : Nat) (i : Nat) (W W' : World) : Prop := if i = 38 then Kp (fun k => k = r) W W' else Kn W W'
set_option maxRecDepth 100000 in
set_option maxHeartbeats 8000000 in
theorem msgC_step_bare {x : Ms} {w : World} {B0 : Nat} {xs : List Value} {G0 : List Nat} (hx : MemL w B0 (Ms.dv Ty0 x) xs G0) (hfw : x.Fw) (hsub : ∀ z ∈ x.msgs, ∀ (W : World) (zs : List Value) (B : Nat) (G : List Nat), MemL W B (Ms.dv Ty0 z) zs G → z.Few → Calls Tryz.prog 85 #[.func (.func 49) #[] #[], .agg zs.toArray] W fun e W' => ∃ vs G, e = .returned (.agg vs) ∧ MemL W' W.heap.size (Ms.dv Ty0 (Ms.bare z)) vs.toList G ∧ Kn W W') :
    Calls Tryz.prog 85 #[.func (.func 49) #[] #[], .agg xs.toArray] w fun e w' => ∃ vs G, e = .returned (.agg vs) ∧ MemL w' w.heap.size (Ms.dv Ty0 (Ms.bare x)) vs.toList G ∧ Kn w w' := by
  obtain ⟨A2, c2, F2, A3, c3, F3, A4, c4, F4, A5, c5, F5, A6, c6, F6, A7, c7, F7, rfl, x2, x3, x4, x5, x6, x7⟩ := Ms.q hx
  have HFW := Lib.hid hfw
  have HSUB := Lib.hid hsub
  clear hsub
  have X2 := Lib.hid x2
  have X3 := Lib.hid x3
  have X4 := Lib.hid x4
  have X5 := Lib.hid x5
  have X6 := Lib.hid x6
  have X7 := Lib.hid x7
  clear hx hfw x2 x3 x4 x5 x6 x7
  go_enter Tryz.func85, Tryz.ntmps85
  go_wp2_with fail
  have HB := Lib.hid ((Blk.new w 49 #[.string x.name, .int .i64 x.at_, .slice A2 x.flds.length c2, .slice A3 x.onos.length c3, .slice A4 x.msgs.length c4, .slice A5 x.enums.length c5, .slice A6 x.rngs.length c6, .slice A7 x.nams.length c7]).alloc (.cells #[.string ⟨#[]⟩, .int .i64 0, .slice none 0 0, .slice none 0 0, .slice none 0 0, .slice none 0 0, .slice none 0 0, .slice none 0 0] 49))
  have HR := Lib.hid (show Blk _ (w.heap.size + 1) 49 #[.string ⟨#[]⟩, .int .i64 0, .slice none 0 0, .slice none 0 0, .slice none 0 0, .slice none 0 0, .slice none 0 0, .slice none 0 0] by have := Blk.new (w.alloc (.cells #[.string x.name, .int .i64 x.at_, .slice A2 x.flds.length c2, .slice A3 x.onos.length c3, .slice A4 x.msgs.length c4, .slice A5 x.enums.length c5, .slice A6 x.rngs.length c6, .slice A7 x.nams.length c7] 49)) 49 #[.string ⟨#[]⟩, .int .i64 0, .slice none 0 0, .slice none 0 0, .slice none 0 0, .slice none 0 0, .slice none 0 0, .slice none 0 0]; simpa using this)
  have HK0 := Lib.hid (show Kn w _ from ((Kp.refl (fun _ => False) w).alloc (.cells #[.string x.name, .int .i64 x.at_, .slice A2 x.flds.length c2, .slice A3 x.onos.length c3, .slice A4 x.msgs.length c4, .slice A5 x.enums.length c5, .slice A6 x.rngs.length c6, .slice A7 x.nams.length c7] 49)).alloc (.cells #[.string ⟨#[]⟩, .int .i64 0, .slice none 0 0, .slice none 0 0, .slice none 0 0, .slice none 0 0, .slice none 0 0, .slice none 0 0] 49))
  have HS := Lib.hid (show ((w.alloc (.cells #[.string x.name, .int .i64 x.at_, .slice A2 x.flds.length c2, .slice A3 x.onos.length c3, .slice A4 x.msgs.length c4, .slice A5 x.enums.length c5, .slice A6 x.rngs.length c6, .slice A7 x.nams.length c7] 49)).alloc (.cells #[.string ⟨#[]⟩, .int .i64 0, .slice none 0 0, .slice none 0 0, .slice none 0 0, .slice none 0 0, .slice none 0 0, .slice none 0 0] 49)).heap.size = w.heap.size + 2 by simp)
  obtain ⟨q, hq⟩ : ∃ q, q = w.heap.size := ⟨_, rfl⟩
  have HQ := Lib.hid hq
  simp only [← hq] at HB HR HS ⊢
  clear hq
  generalize World.alloc (World.alloc w _) _ = w1 at *
  have HE2 := Lib.hid (fun (W : World) (hk : Kn w1 W) => eachFd_bare (X2.out.kn (HK0.out.trans hk)) HFW.out.flds)
  have HE3 := Lib.hid (fun (W : World) (hk : Kn w1 W) => eachTx_bare (X3.out.kn (HK0.out.trans hk)) HFW.out.onos)
  have HE4 := Lib.hid (fun (W : World) (hk : Kn w1 W) => eachMs_bare (X4.out.kn (HK0.out.trans hk)) HFW.out.msgs HSUB.out)
  have HE5 := Lib.hid (fun (W : World) (hk : Kn w1 W) => eachEn_bare (X5.out.kn (HK0.out.trans hk)) HFW.out.enums)
  have HE6 := Lib.hid (fun (W : World) (hk : Kn w1 W) => eachSp_bare (X6.out.kn (HK0.out.trans hk)) HFW.out.rngs)
  have HE7 := Lib.hid (fun (W : World) (hk : Kn w1 W) => eachTx_bare (X7.out.kn (HK0.out.trans hk)) HFW.out.nams)
  refine wp_region_flow (by kernel_rfl) 43 1 3 (fun i => match i with | 1 => [39] | 5 => [39] | 8 => [39] | 11 => [39] | 13 => [39] | 16 => [39] | 18 => [39] | 21 => [39] | 23 => [39] | 26 => [39] | 28 => [39] | 31 => [39] | 33 => [39] | 36 => [39] | 37 => [11, 16, 21, 26, 31, 36] | 38 => [37, 11, 16, 21, 26, 31, 36, 39] | _ => []) (fun _ => []) (fun i => match i with | 38 => [11, 16, 21, 26, 31, 36, 37, 39] | _ => []) (fun i => ([5, 6, 7, 8, 9, 10, 11, 12, 13, 14, 15, 16, 17, 18, 19, 20, 21, 22, 23, 24, 25, 26, 27, 28, 29, 30, 31, 32, 33, 34, 35, 36, 37, 38, 39, 40, 41, 42, 81, 82] : List Nat).getD i 0) (by kernel_rfl) rfl [5, 6, 7, 8, 9, 10, 11, 12, 13, 14, 15, 16, 17, 18, 19, 20, 21, 22, 23, 24, 25, 26, 27, 28, 29, 30, 31, 32, 33, 34, 35, 36, 37, 38, 39, 40, 41, 42, 81, 82] (by kernel_rfl)
    (msgC_bareF (q + 1)) (msgC_bareV x q (q + 1) A2 A3 A4 A5 A6 A7 c2 c3 c4 c5 c6 c7) (msgC_bareP x (q + 1) w1.heap.size w1) ?cong ?st ?t0 ?op ?skip ?done
  case cong =>
    intro i d d' W hi hj h
    have hi : i < 40 := hi
    by_cases i11 : i = 11
    · subst i11
      have e11 := hj 11 (.inl rfl)
      simp only [msgC_bareP] at h ⊢
      rw [← e11]
      exact h
    by_cases i16 : i = 16
    · subst i16
      have e16 := hj 16 (.inl rfl)
      simp only [msgC_bareP] at h ⊢
      rw [← e16]
      exact h
    by_cases i21 : i = 21
    · subst i21
      have e21 := hj 21 (.inl rfl)
      simp only [msgC_bareP] at h ⊢
      rw [← e21]
      exact h
    by_cases i26 : i = 26
    · subst i26
      have e26 := hj 26 (.inl rfl)
      simp only [msgC_bareP] at h ⊢
      rw [← e26]
      exact h
    by_cases i31 : i = 31
    · subst i31
      have e31 := hj 31 (.inl rfl)
      simp only [msgC_bareP] at h ⊢
      rw [← e31]
      exact h
    by_cases i36 : i = 36
    · subst i36
      have e36 := hj 36 (.inl rfl)
      simp only [msgC_bareP] at h ⊢
      rw [← e36]
      exact h
    by_cases i37 : i = 37
    · subst i37
      have e37 := hj 37 (.inl rfl)
      have e11 := hj 11 (.inr (by kernel_rfl))
      have e16 := hj 16 (.inr (by kernel_rfl))
      have e21 := hj 21 (.inr (by kernel_rfl))
      have e26 := hj 26 (.inr (by kernel_rfl))
      have e31 := hj 31 (.inr (by kernel_rfl))
      have e36 := hj 36 (.inr (by kernel_rfl))
      simp only [msgC_bareP] at h ⊢
      rw [← e37, ← e11, ← e16, ← e21, ← e26, ← e31, ← e36]
      exact h
    obtain rfl | rfl | rfl | rfl | rfl | rfl | rfl | rfl | rfl | rfl | rfl | rfl | rfl | rfl | rfl | rfl | rfl | rfl | rfl | rfl | rfl | rfl | rfl | rfl | rfl | rfl | rfl | rfl | rfl | rfl | rfl | rfl | rfl : i = 0 ∨ i = 1 ∨ i = 2 ∨ i = 3 ∨ i = 4 ∨ i = 5 ∨ i = 6 ∨ i = 7 ∨ i = 8 ∨ i = 9 ∨ i = 10 ∨ i = 12 ∨ i = 13 ∨ i = 14 ∨ i = 15 ∨ i = 17 ∨ i = 18 ∨ i = 19 ∨ i = 20 ∨ i = 22 ∨ i = 23 ∨ i = 24 ∨ i = 25 ∨ i = 27 ∨ i = 28 ∨ i = 29 ∨ i = 30 ∨ i = 32 ∨ i = 33 ∨ i = 34 ∨ i = 35 ∨ i = 38 ∨ i = 39 := by omega
    all_goals exact h
  case st =>
    intro i j d W W' hi hj hij hsp hr h hF
    have hi : i < 39 := hi
    have hj : j < 40 := hj
    unfold msgC_bareF at hF
    by_cases hs : i = 38
    · rw [if_pos hs] at hF
      subst hs
      by_cases hjs : j = 11 ∨ j = 16 ∨ j = 21 ∨ j = 26 ∨ j = 31 ∨ j = 36 ∨ j = 37 ∨ j = 39
      · exfalso
        rcases hjs with rfl | rfl | rfl | rfl | rfl | rfl | rfl | rfl
        all_goals exact hsp (by simp)
      · obtain rfl | rfl | rfl | rfl | rfl | rfl | rfl | rfl | rfl | rfl | rfl | rfl | rfl | rfl | rfl | rfl | rfl | rfl | rfl | rfl | rfl | rfl | rfl | rfl | rfl | rfl | rfl | rfl | rfl | rfl | rfl : j = 0 ∨ j = 1 ∨ j = 2 ∨ j = 3 ∨ j = 4 ∨ j = 5 ∨ j = 6 ∨ j = 7 ∨ j = 8 ∨ j = 9 ∨ j = 10 ∨ j = 12 ∨ j = 13 ∨ j = 14 ∨ j = 15 ∨ j = 17 ∨ j = 18 ∨ j = 19 ∨ j = 20 ∨ j = 22 ∨ j = 23 ∨ j = 24 ∨ j = 25 ∨ j = 27 ∨ j = 28 ∨ j = 29 ∨ j = 30 ∨ j = 32 ∨ j = 33 ∨ j = 34 ∨ j = 35 := by omega
        all_goals trivial
    · rw [if_neg hs] at hF
      by_cases hje : j = 11 ∨ j = 16 ∨ j = 21 ∨ j = 26 ∨ j = 31 ∨ j = 36
      · rcases hje with rfl | rfl | rfl | rfl | rfl | rfl
        all_goals exact h.imp fun G hm => Mem.kn hm hF
      by_cases hjb : j = 37
      · subst hjb; exact h
      by_cases hjn : j = 39
      · subst hjn; exact Kp.trans h hF
      by_cases hjs : j = 38
      · exfalso
        subst hjs
        obtain rfl | rfl | rfl | rfl | rfl | rfl | rfl | rfl | rfl | rfl | rfl | rfl | rfl | rfl | rfl | rfl | rfl | rfl | rfl | rfl | rfl | rfl | rfl | rfl | rfl | rfl | rfl | rfl | rfl | rfl | rfl | rfl | rfl | rfl | rfl | rfl | rfl | rfl : i = 0 ∨ i = 1 ∨ i = 2 ∨ i = 3 ∨ i = 4 ∨ i = 5 ∨ i = 6 ∨ i = 7 ∨ i = 8 ∨ i = 9 ∨ i = 10 ∨ i = 11 ∨ i = 12 ∨ i = 13 ∨ i = 14 ∨ i = 15 ∨ i = 16 ∨ i = 17 ∨ i = 18 ∨ i = 19 ∨ i = 20 ∨ i = 21 ∨ i = 22 ∨ i = 23 ∨ i = 24 ∨ i = 25 ∨ i = 26 ∨ i = 27 ∨ i = 28 ∨ i = 29 ∨ i = 30 ∨ i = 31 ∨ i = 32 ∨ i = 33 ∨ i = 34 ∨ i = 35 ∨ i = 36 ∨ i = 37 := by omega
        all_goals exact absurd (show reach _ 3 _ _ = true by kernel_rfl) (by rw [hr]; decide)
      · obtain rfl | rfl | rfl | rfl | rfl | rfl | rfl | rfl | rfl | rfl | rfl | rfl | rfl | rfl | rfl | rfl | rfl | rfl | rfl | rfl | rfl | rfl | rfl | rfl | rfl | rfl | rfl | rfl | rfl | rfl | rfl : j = 0 ∨ j = 1 ∨ j = 2 ∨ j = 3 ∨ j = 4 ∨ j = 5 ∨ j = 6 ∨ j = 7 ∨ j = 8 ∨ j = 9 ∨ j = 10 ∨ j = 12 ∨ j = 13 ∨ j = 14 ∨ j = 15 ∨ j = 17 ∨ j = 18 ∨ j = 19 ∨ j = 20 ∨ j = 22 ∨ j = 23 ∨ j = 24 ∨ j = 25 ∨ j = 27 ∨ j = 28 ∨ j = 29 ∨ j = 30 ∨ j = 32 ∨ j = 33 ∨ j = 34 ∨ j = 35 := by omega
        all_goals trivial
  case t0 =>
    intro j d hj
    obtain rfl : j = 0 := by omega
    exact Kp.drew (Kp.refl _ _)
  case op =>
    intro i o ho u W hdep hV _ _ K hK
    simp only [over, List.foldl_cons, List.foldl_nil, List.setIfInBounds_toArray, List.set_cons_zero, List.set_cons_succ, List.set_nil, List.getD_cons_zero, List.getD_cons_succ, Array.getD_eq_getD_getElem?, List.getElem?_toArray] at hK hdep hV ⊢
    match i, ho with
    | 0, ho =>
      simp only [List.getElem?_toArray, List.getElem?_cons_zero, List.getElem?_cons_succ, Option.some.injEq] at ho
      subst ho
      go_wp2
      exact hK _ _ rfl trivial (Kp.refl _ _)
    | 1, ho =>
      simp only [List.getElem?_toArray, List.getElem?_cons_zero, List.getElem?_cons_succ, Option.some.injEq] at ho
      subst ho
      have v0 : u 5 = .pointer (some ⟨q, 0, none⟩) := hV 0 (by kernel_rfl)
      obtain hk := hdep 39 (by simp)
      have hc := Blk.cell (HB.out.kp hk (fun f => f)) 0
      simp only [List.getElem?_toArray, List.getElem?_cons_zero, List.getElem?_cons_succ] at hc
      simp only [v0] at hK ⊢
      go_wp2
      exact hK _ _ rfl trivial (Kp.refl _ _)
    | 2, ho =>
      simp only [List.getElem?_toArray, List.getElem?_cons_zero, List.getElem?_cons_succ, Option.some.injEq] at ho
      subst ho
      have v1 : u 6 = .string x.name := hV 1 (by kernel_rfl)
      simp only [v1] at hK ⊢
      go_wp2_with fail
      refine (cloneQ_any _ _ HFW.out.name).mono ?_
      rintro e w2 ⟨rfl, hk2⟩
      exact hK _ _ rfl trivial hk2
    | 3, ho =>
      simp only [List.getElem?_toArray, List.getElem?_cons_zero, List.getElem?_cons_succ, Option.some.injEq] at ho
      subst ho
      go_wp2
      exact hK _ _ rfl trivial (Kp.refl _ _)
    | 4, ho =>
      simp only [List.getElem?_toArray, List.getElem?_cons_zero, List.getElem?_cons_succ, Option.some.injEq] at ho
      subst ho
      go_wp2
      exact hK _ _ rfl trivial (Kp.refl _ _)
    | 5, ho =>
      simp only [List.getElem?_toArray, List.getElem?_cons_zero, List.getElem?_cons_succ, Option.some.injEq] at ho
      subst ho
      have v4 : u 9 = .pointer (some ⟨q, 1, none⟩) := hV 4 (by kernel_rfl)
      obtain hk := hdep 39 (by simp)
      have hc := Blk.cell (HB.out.kp hk (fun f => f)) 1
      simp only [List.getElem?_toArray, List.getElem?_cons_zero, List.getElem?_cons_succ] at hc
      simp only [v4] at hK ⊢
      go_wp2
      exact hK _ _ rfl trivial (Kp.refl _ _)
    | 6, ho =>
      simp only [List.getElem?_toArray, List.getElem?_cons_zero, List.getElem?_cons_succ, Option.some.injEq] at ho
      subst ho
      have v3 : u 8 = .func (.func 49) #[] #[] := hV 3 (by kernel_rfl)
      have v5 : u 10 = .int .i64 x.at_ := hV 5 (by kernel_rfl)
      simp only [v3, v5] at hK ⊢
      go_wp2_with fail
      refine (place_bare _ _).mono ?_
      rintro e w2 ⟨rfl, hk2⟩
      exact hK _ _ rfl trivial hk2
    | 7, ho =>
      simp only [List.getElem?_toArray, List.getElem?_cons_zero, List.getElem?_cons_succ, Option.some.injEq] at ho
      subst ho
      go_wp2
      exact hK _ _ rfl trivial (Kp.refl _ _)
    | 8, ho =>
      simp only [List.getElem?_toArray, List.getElem?_cons_zero, List.getElem?_cons_succ, Option.some.injEq] at ho
      subst ho
      have v7 : u 12 = .pointer (some ⟨q, 2, none⟩) := hV 7 (by kernel_rfl)
      obtain hk := hdep 39 (by simp)
      have hc := Blk.cell (HB.out.kp hk (fun f => f)) 2
      simp only [List.getElem?_toArray, List.getElem?_cons_zero, List.getElem?_cons_succ] at hc
      simp only [v7] at hK ⊢
      go_wp2
      exact hK _ _ rfl trivial (Kp.refl _ _)
    | 9, ho =>
      simp only [List.getElem?_toArray, List.getElem?_cons_zero, List.getElem?_cons_succ, Option.some.injEq] at ho
      subst ho
      go_wp2
      exact hK _ _ rfl trivial (Kp.refl _ _)
    | 10, ho =>
      simp only [List.getElem?_toArray, List.getElem?_cons_zero, List.getElem?_cons_succ, Option.some.injEq] at ho
      subst ho
      have v9 : u 14 = .func (.func 49) #[] #[] := hV 9 (by kernel_rfl)
      simp only [v9] at hK ⊢
      go_wp2
      exact hK _ _ rfl trivial (Kp.refl _ _)
    | 11, ho =>
      simp only [List.getElem?_toArray, List.getElem?_cons_zero, List.getElem?_cons_succ, Option.some.injEq] at ho
      subst ho
      have v8 : u 13 = .slice A2 x.flds.length c2 := hV 8 (by kernel_rfl)
      have v10 : u 15 = .func (.func 126) #[.func (.func 49) #[] #[]] #[] := hV 10 (by kernel_rfl)
      obtain hk := hdep 39 (by simp)
      simp only [v8, v10] at hK ⊢
      go_wp2_with fail
      refine (HE2.out W hk).mono ?_
      rintro e w2 ⟨v, G, rfl, hm, hk2⟩
      exact hK _ _ trivial ⟨G, Mem.base hk.size hm⟩ hk2
    | 12, ho =>
      simp only [List.getElem?_toArray, List.getElem?_cons_zero, List.getElem?_cons_succ, Option.some.injEq] at ho
      subst ho
      go_wp2
      exact hK _ _ rfl trivial (Kp.refl _ _)
    | 13, ho =>
      simp only [List.getElem?_toArray, List.getElem?_cons_zero, List.getElem?_cons_succ, Option.some.injEq] at ho
      subst ho
      have v12 : u 17 = .pointer (some ⟨q, 3, none⟩) := hV 12 (by kernel_rfl)
      obtain hk := hdep 39 (by simp)
      have hc := Blk.cell (HB.out.kp hk (fun f => f)) 3
      simp only [List.getElem?_toArray, List.getElem?_cons_zero, List.getElem?_cons_succ] at hc
      simp only [v12] at hK ⊢
      go_wp2
      exact hK _ _ rfl trivial (Kp.refl _ _)
    | 14, ho =>
      simp only [List.getElem?_toArray, List.getElem?_cons_zero, List.getElem?_cons_succ, Option.some.injEq] at ho
      subst ho
      go_wp2
      exact hK _ _ rfl trivial (Kp.refl _ _)
    | 15, ho =>
      simp only [List.getElem?_toArray, List.getElem?_cons_zero, List.getElem?_cons_succ, Option.some.injEq] at ho
      subst ho
      have v14 : u 19 = .func (.func 49) #[] #[] := hV 14 (by kernel_rfl)
      simp only [v14] at hK ⊢
      go_wp2
      exact hK _ _ rfl trivial (Kp.refl _ _)
    | 16, ho =>
      simp only [List.getElem?_toArray, List.getElem?_cons_zero, List.getElem?_cons_succ, Option.some.injEq] at ho
      subst ho
      have v13 : u 18 = .slice A3 x.onos.length c3 := hV 13 (by kernel_rfl)
      have v15 : u 20 = .func (.func 128) #[.func (.func 49) #[] #[]] #[] := hV 15 (by kernel_rfl)
      obtain hk := hdep 39 (by simp)
      simp only [v13, v15] at hK ⊢
      go_wp2_with fail
      refine (HE3.out W hk).mono ?_
      rintro e w2 ⟨v, G, rfl, hm, hk2⟩
      exact hK _ _ trivial ⟨G, Mem.base hk.size hm⟩ hk2
    | 17, ho =>
      simp only [List.getElem?_toArray, List.getElem?_cons_zero, List.getElem?_cons_succ, Option.some.injEq] at ho
      subst ho
      go_wp2
      exact hK _ _ rfl trivial (Kp.refl _ _)
    | 18, ho =>
      simp only [List.getElem?_toArray, List.getElem?_cons_zero, List.getElem?_cons_succ, Option.some.injEq] at ho
      subst ho
      have v17 : u 22 = .pointer (some ⟨q, 4, none⟩) := hV 17 (by kernel_rfl)
      obtain hk := hdep 39 (by simp)
      have hc := Blk.cell (HB.out.kp hk (fun f => f)) 4
      simp only [List.getElem?_toArray, List.getElem?_cons_zero, List.getElem?_cons_succ] at hc
      simp only [v17] at hK ⊢
      go_wp2
      exact hK _ _ rfl trivial (Kp.refl _ _)
    | 19, ho =>
      simp only [List.getElem?_toArray, List.getElem?_cons_zero, List.getElem?_cons_succ, Option.some.injEq] at ho
      subst ho
      go_wp2
      exact hK _ _ rfl trivial (Kp.refl _ _)
    | 20, ho =>
      simp only [List.getElem?_toArray, List.getElem?_cons_zero, List.getElem?_cons_succ, Option.some.injEq] at ho
      subst ho
      have v19 : u 24 = .func (.func 49) #[] #[] := hV 19 (by kernel_rfl)
      simp only [v19] at hK ⊢
      go_wp2
      exact hK _ _ rfl trivial (Kp.refl _ _)
    | 21, ho =>
      simp only [List.getElem?_toArray, List.getElem?_cons_zero, List.getElem?_cons_succ, Option.some.injEq] at ho
      subst ho
      have v18 : u 23 = .slice A4 x.msgs.length c4 := hV 18 (by kernel_rfl)
      have v20 : u 25 = .func (.func 85) #[.func (.func 49) #[] #[]] #[] := hV 20 (by kernel_rfl)
      obtain hk := hdep 39 (by simp)
      simp only [v18, v20] at hK ⊢
      go_wp2_with fail
      refine (HE4.out W hk).mono ?_
      rintro e w2 ⟨v, G, rfl, hm, hk2⟩
      exact hK _ _ trivial ⟨G, Mem.base hk.size hm⟩ hk2
    | 22, ho =>
      simp only [List.getElem?_toArray, List.getElem?_cons_zero, List.getElem?_cons_succ, Option.some.injEq] at ho
      subst ho
      go_wp2
      exact hK _ _ rfl trivial (Kp.refl _ _)
    | 23, ho =>
      simp only [List.getElem?_toArray, List.getElem?_cons_zero, List.getElem?_cons_succ, Option.some.injEq] at ho
      subst ho
      have v22 : u 27 = .pointer (some ⟨q, 5, none⟩) := hV 22 (by kernel_rfl)
      obtain hk := hdep 39 (by simp)
      have hc := Blk.cell (HB.out.kp hk (fun f => f)) 5
      simp only [List.getElem?_toArray, List.getElem?_cons_zero, List.getElem?_cons_succ] at hc
      simp only [v22] at hK ⊢
      go_wp2
      exact hK _ _ rfl trivial (Kp.refl _ _)
    | 24, ho =>
      simp only [List.getElem?_toArray, List.getElem?_cons_zero, List.getElem?_cons_succ, Option.some.injEq] at ho
      subst ho
      go_wp2
      exact hK _ _ rfl trivial (Kp.refl _ _)
    | 25, ho =>
      simp only [List.getElem?_toArray, List.getElem?_cons_zero, List.getElem?_cons_succ, Option.some.injEq] at ho
      subst ho
      have v24 : u 29 = .func (.func 49) #[] #[] := hV 24 (by kernel_rfl)
      simp only [v24] at hK ⊢
      go_wp2
      exact hK _ _ rfl trivial (Kp.refl _ _)
    | 26, ho =>
      simp only [List.getElem?_toArray, List.getElem?_cons_zero, List.getElem?_cons_succ, Option.some.injEq] at ho
      subst ho
      have v23 : u 28 = .slice A5 x.enums.length c5 := hV 23 (by kernel_rfl)
      have v25 : u 30 = .func (.func 87) #[.func (.func 49) #[] #[]] #[] := hV 25 (by kernel_rfl)
      obtain hk := hdep 39 (by simp)
      simp only [v23, v25] at hK ⊢
      go_wp2_with fail
      refine (HE5.out W hk).mono ?_
      rintro e w2 ⟨v, G, rfl, hm, hk2⟩
      exact hK _ _ trivial ⟨G, Mem.base hk.size hm⟩ hk2
    | 27, ho =>
      simp only [List.getElem?_toArray, List.getElem?_cons_zero, List.getElem?_cons_succ, Option.some.injEq] at ho
      subst ho
      go_wp2
      exact hK _ _ rfl trivial (Kp.refl _ _)
    | 28, ho =>
      simp only [List.getElem?_toArray, List.getElem?_cons_zero, List.getElem?_cons_succ, Option.some.injEq] at ho
      subst ho
      have v27 : u 32 = .pointer (some ⟨q, 6, none⟩) := hV 27 (by kernel_rfl)
      obtain hk := hdep 39 (by simp)
      have hc := Blk.cell (HB.out.kp hk (fun f => f)) 6
      simp only [List.getElem?_toArray, List.getElem?_cons_zero, List.getElem?_cons_succ] at hc
      simp only [v27] at hK ⊢
      go_wp2
      exact hK _ _ rfl trivial (Kp.refl _ _)
    | 29, ho =>
      simp only [List.getElem?_toArray, List.getElem?_cons_zero, List.getElem?_cons_succ, Option.some.injEq] at ho
      subst ho
      go_wp2
      exact hK _ _ rfl trivial (Kp.refl _ _)
    | 30, ho =>
      simp only [List.getElem?_toArray, List.getElem?_cons_zero, List.getElem?_cons_succ, Option.some.injEq] at ho
      subst ho
      have v29 : u 34 = .func (.func 49) #[] #[] := hV 29 (by kernel_rfl)
      simp only [v29] at hK ⊢
      go_wp2
      exact hK _ _ rfl trivial (Kp.refl _ _)
    | 31, ho =>
      simp only [List.getElem?_toArray, List.getElem?_cons_zero, List.getElem?_cons_succ, Option.some.injEq] at ho
      subst ho
      have v28 : u 33 = .slice A6 x.rngs.length c6 := hV 28 (by kernel_rfl)
      have v30 : u 35 = .func (.func 130) #[.func (.func 49) #[] #[]] #[] := hV 30 (by kernel_rfl)
      obtain hk := hdep 39 (by simp)
      simp only [v28, v30] at hK ⊢
      go_wp2_with fail
      refine (HE6.out W hk).mono ?_
      rintro e w2 ⟨v, G, rfl, hm, hk2⟩
      exact hK _ _ trivial ⟨G, Mem.base hk.size hm⟩ hk2
    | 32, ho =>
      simp only [List.getElem?_toArray, List.getElem?_cons_zero, List.getElem?_cons_succ, Option.some.injEq] at ho
      subst ho
      go_wp2
      exact hK _ _ rfl trivial (Kp.refl _ _)
    | 33, ho =>
      simp only [List.getElem?_toArray, List.getElem?_cons_zero, List.getElem?_cons_succ, Option.some.injEq] at ho
      subst ho
      have v32 : u 37 = .pointer (some ⟨q, 7, none⟩) := hV 32 (by kernel_rfl)
      obtain hk := hdep 39 (by simp)
      have hc := Blk.cell (HB.out.kp hk (fun f => f)) 7
      simp only [List.getElem?_toArray, List.getElem?_cons_zero, List.getElem?_cons_succ] at hc
      simp only [v32] at hK ⊢
      go_wp2
      exact hK _ _ rfl trivial (Kp.refl _ _)
    | 34, ho =>
      simp only [List.getElem?_toArray, List.getElem?_cons_zero, List.getElem?_cons_succ, Option.some.injEq] at ho
      subst ho
      go_wp2
      exact hK _ _ rfl trivial (Kp.refl _ _)
    | 35, ho =>
      simp only [List.getElem?_toArray, List.getElem?_cons_zero, List.getElem?_cons_succ, Option.some.injEq] at ho
      subst ho
      have v34 : u 39 = .func (.func 49) #[] #[] := hV 34 (by kernel_rfl)
      simp only [v34] at hK ⊢
      go_wp2
      exact hK _ _ rfl trivial (Kp.refl _ _)
    | 36, ho =>
      simp only [List.getElem?_toArray, List.getElem?_cons_zero, List.getElem?_cons_succ, Option.some.injEq] at ho
      subst ho
      have v33 : u 38 = .slice A7 x.nams.length c7 := hV 33 (by kernel_rfl)
      have v35 : u 40 = .func (.func 128) #[.func (.func 49) #[] #[]] #[] := hV 35 (by kernel_rfl)
      obtain hk := hdep 39 (by simp)
      simp only [v33, v35] at hK ⊢
      go_wp2_with fail
      refine (HE7.out W hk).mono ?_
      rintro e w2 ⟨v, G, rfl, hm, hk2⟩
      exact hK _ _ trivial ⟨G, Mem.base hk.size hm⟩ hk2
    | 37, ho =>
      simp only [List.getElem?_toArray, List.getElem?_cons_zero, List.getElem?_cons_succ, Option.some.injEq] at ho
      subst ho
      have v2 : u 7 = .string x.name := hV 2 (by kernel_rfl)
      have v6 : u 11 = .int .i64 (0) := hV 6 (by kernel_rfl)
      obtain ⟨G2, m2⟩ := hdep 11 (by simp)
      obtain ⟨a2, b2, s2, -⟩ := m2.sl_q
      rw [List.length_map] at s2
      replace s2 : u 16 = .slice a2 x.flds.length b2 := s2
      obtain ⟨G3, m3⟩ := hdep 16 (by simp)
      obtain ⟨a3, b3, s3, -⟩ := m3.sl_q
      rw [List.length_map] at s3
      replace s3 : u 21 = .slice a3 x.onos.length b3 := s3
      obtain ⟨G4, m4⟩ := hdep 21 (by simp)
      obtain ⟨a4, b4, s4, -⟩ := m4.sl_q
      rw [List.length_map] at s4
      replace s4 : u 26 = .slice a4 x.msgs.length b4 := s4
      obtain ⟨G5, m5⟩ := hdep 26 (by simp)
      obtain ⟨a5, b5, s5, -⟩ := m5.sl_q
      rw [List.length_map] at s5
      replace s5 : u 31 = .slice a5 x.enums.length b5 := s5
      obtain ⟨G6, m6⟩ := hdep 31 (by simp)
      obtain ⟨a6, b6, s6, -⟩ := m6.sl_q
      rw [List.length_map] at s6
      replace s6 : u 36 = .slice a6 x.rngs.length b6 := s6
      obtain ⟨G7, m7⟩ := hdep 36 (by simp)
      obtain ⟨a7, b7, s7, -⟩ := m7.sl_q
      rw [List.length_map] at s7
      replace s7 : u 41 = .slice a7 x.nams.length b7 := s7
      simp only [v2, v6] at hK ⊢
      simp only [s2, s3, s4, s5, s6, s7] at hK ⊢
      go_wp2
      refine hK _ _ trivial ?_ (Kp.refl _ _)
      show Value.agg #[.string x.name, .int .i64 (0), .slice a2 x.flds.length b2, .slice a3 x.onos.length b3, .slice a4 x.msgs.length b4, .slice a5 x.enums.length b5, .slice a6 x.rngs.length b6, .slice a7 x.nams.length b7] = Value.agg #[.string x.name, .int .i64 (0), u 16, u 21, u 26, u 31, u 36, u 41]
      rw [s2, s3, s4, s5, s6, s7]
    | 38, ho =>
      simp only [List.getElem?_toArray, List.getElem?_cons_zero, List.getElem?_cons_succ, Option.some.injEq] at ho
      subst ho
      obtain hbd := hdep 37 (by simp)
      obtain ⟨G2, m2⟩ := hdep 11 (by simp)
      obtain ⟨G3, m3⟩ := hdep 16 (by simp)
      obtain ⟨G4, m4⟩ := hdep 21 (by simp)
      obtain ⟨G5, m5⟩ := hdep 26 (by simp)
      obtain ⟨G6, m6⟩ := hdep 31 (by simp)
      obtain ⟨G7, m7⟩ := hdep 36 (by simp)
      obtain hk := hdep 39 (by simp)
      obtain ⟨a2, b2, s2, -⟩ := m2.sl_q
      rw [List.length_map] at s2
      replace s2 : u 16 = .slice a2 x.flds.length b2 := s2
      obtain ⟨a3, b3, s3, -⟩ := m3.sl_q
      rw [List.length_map] at s3
      replace s3 : u 21 = .slice a3 x.onos.length b3 := s3
      obtain ⟨a4, b4, s4, -⟩ := m4.sl_q
      rw [List.length_map] at s4
      replace s4 : u 26 = .slice a4 x.msgs.length b4 := s4
      obtain ⟨a5, b5, s5, -⟩ := m5.sl_q
      rw [List.length_map] at s5
      replace s5 : u 31 = .slice a5 x.enums.length b5 := s5
      obtain ⟨a6, b6, s6, -⟩ := m6.sl_q
      rw [List.length_map] at s6
      replace s6 : u 36 = .slice a6 x.rngs.length b6 := s6
      obtain ⟨a7, b7, s7, -⟩ := m7.sl_q
      rw [List.length_map] at s7
      replace s7 : u 41 = .slice a7 x.nams.length b7 := s7
      replace hbd : u 42 = .agg #[.string x.name, .int .i64 (0), u 16, u 21, u 26, u 31, u 36, u 41] := hbd
      rw [s2, s3, s4, s5, s6, s7] at hbd
      have hr1 := HR.out.kp hk (fun f => f)
      have rc0 := Blk.cell hr1 0
      have rf0 := Blk.frozen hr1 0
      have rc1 := Blk.cell hr1 1
      have rf1 := Blk.frozen hr1 1
      have rc2 := Blk.cell hr1 2
      have rf2 := Blk.frozen hr1 2
      have rc3 := Blk.cell hr1 3
      have rf3 := Blk.frozen hr1 3
      have rc4 := Blk.cell hr1 4
      have rf4 := Blk.frozen hr1 4
      have rc5 := Blk.cell hr1 5
      have rf5 := Blk.frozen hr1 5
      have rc6 := Blk.cell hr1 6
      have rf6 := Blk.frozen hr1 6
      have rc7 := Blk.cell hr1 7
      have rf7 := Blk.frozen hr1 7
      simp only [List.getElem?_toArray, List.getElem?_cons_zero, List.getElem?_cons_succ] at rc0 rc1 rc2 rc3 rc4 rc5 rc6 rc7
      simp only [hbd] at hK ⊢
      have hBW := HS.out
      have S2 := Lib.hid s2
      clear s2
      have S3 := Lib.hid s3
      clear s3
      have S4 := Lib.hid s4
      clear s4
      have S5 := Lib.hid s5
      clear s5
      have S6 := Lib.hid s6
      clear s6
      have S7 := Lib.hid s7
      clear s7
      go_wp2
      have hfr : Kp (fun k => k = q + 1) W _ := (Kp.setCell (p := ⟨q + 1, 7, none⟩) (Kp.setCell (p := ⟨q + 1, 6, none⟩) (Kp.setCell (p := ⟨q + 1, 5, none⟩) (Kp.setCell (p := ⟨q + 1, 4, none⟩) (Kp.setCell (p := ⟨q + 1, 3, none⟩) (Kp.setCell (p := ⟨q + 1, 2, none⟩) (Kp.setCell (p := ⟨q + 1, 1, none⟩) (Kp.setCell (p := ⟨q + 1, 0, none⟩) (Kp.refl (fun k => k = q + 1) W) (fun _ => rfl) (.string x.name)) (fun _ => rfl) (.int .i64 (0))) (fun _ => rfl) (.slice a2 x.flds.length b2)) (fun _ => rfl) (.slice a3 x.onos.length b3)) (fun _ => rfl) (.slice a4 x.msgs.length b4)) (fun _ => rfl) (.slice a5 x.enums.length b5)) (fun _ => rfl) (.slice a6 x.rngs.length b6)) (fun _ => rfl) (.slice a7 x.nams.length b7))
      exact hK undef _ trivial ⟨a2, b2, G2, a3, b3, G3, a4, b4, G4, a5, b5, G5, a6, b6, G6, a7, b7, G7, (Blk.set_ (Blk.set_ (Blk.set_ (Blk.set_ (Blk.set_ (Blk.set_ (Blk.set_ (Blk.set_ hr1 0 (.string x.name)) 1 (.int .i64 (0))) 2 (.slice a2 x.flds.length b2)) 3 (.slice a3 x.onos.length b3)) 4 (.slice a4 x.msgs.length b4)) 5 (.slice a5 x.enums.length b5)) 6 (.slice a6 x.rngs.length b6)) 7 (.slice a7 x.nams.length b7)), Mem.stays (S2.out ▸ m2) (fun g hg => hfr.block g (Mem.lt m2 g hg).2 (by have := (Mem.lt m2 g hg).1; omega)), Mem.stays (S3.out ▸ m3) (fun g hg => hfr.block g (Mem.lt m3 g hg).2 (by have := (Mem.lt m3 g hg).1; omega)), Mem.stays (S4.out ▸ m4) (fun g hg => hfr.block g (Mem.lt m4 g hg).2 (by have := (Mem.lt m4 g hg).1; omega)), Mem.stays (S5.out ▸ m5) (fun g hg => hfr.block g (Mem.lt m5 g hg).2 (by have := (Mem.lt m5 g hg).1; omega)), Mem.stays (S6.out ▸ m6) (fun g hg => hfr.block g (Mem.lt m6 g hg).2 (by have := (Mem.lt m6 g hg).1; omega)), Mem.stays (S7.out ▸ m7) (fun g hg => hfr.block g (Mem.lt m7 g hg).2 (by have := (Mem.lt m7 g hg).1; omega)), (Kp.trans (Kp.mono (T := fun k => k = q + 1) hk (fun _ f _ => f.elim)) hfr)⟩ hfr
    | k + 39, ho => simp at ho
  case skip =>
    intro i o g b ho hg
    rw [no_guard (by kernel_rfl) ho] at hg
    cases hg
  case done =>
    intro u W hV hP
    obtain ⟨a2, b2, G2, a3, b3, G3, a4, b4, G4, a5, b5, G5, a6, b6, G6, a7, b7, G7, hb, m2, m3, m4, m5, m6, m7, hk⟩ := hP 38 (by decide) (by decide)
    clear hV hP
    have f0 := Blk.cell hb 0
    have f1 := Blk.cell hb 1
    have f2 := Blk.cell hb 2
    have f3 := Blk.cell hb 3
    have f4 := Blk.cell hb 4
    have f5 := Blk.cell hb 5
    have f6 := Blk.cell hb 6
    have f7 := Blk.cell hb 7
    simp only [List.getElem?_toArray, List.getElem?_cons_zero, List.getElem?_cons_succ] at f0 f1 f2 f3 f4 f5 f6 f7
    simp only [over, List.foldl_cons, List.foldl_nil, List.setIfInBounds_toArray, List.set_cons_zero, List.set_cons_succ, List.set_nil, List.getD_cons_zero, List.getD_cons_succ, Array.getD_eq_getD_getElem?, List.getElem?_toArray]
    go_wp2_with fail
    have hqw := HQ.out
    have hsw := HS.out
    refine bodyPost_ret (v := .agg #[.string x.name, .int .i64 (0), .slice a2 x.flds.length b2, .slice a3 x.onos.length b3, .slice a4 x.msgs.length b4, .slice a5 x.enums.length b5, .slice a6 x.rngs.length b6, .slice a7 x.nams.length b7]) (by simp [results, Tryz.results85, go_sem, f0, f1, f2, f3, f4, f5, f6, f7]) rfl ⟨#[.string x.name, .int .i64 (0), .slice a2 x.flds.length b2, .slice a3 x.onos.length b3, .slice a4 x.msgs.length b4, .slice a5 x.enums.length b5, .slice a6 x.rngs.length b6, .slice a7 x.nams.length b7], ([] ++ ([] ++ (G2 ++ (G3 ++ (G4 ++ (G5 ++ (G6 ++ (G7 ++ [])))))))), rfl, ?_, Kp.trans' HK0.out hk (fun i e hi => by omega)⟩
    rw [Ms.bare_eq, Ms.dv, msL_eq]
    exact .cons _ _ [] _ _ _ (.at_ _ rfl) (.cons _ _ [] _ _ _ (.at_ _ rfl) (.cons _ _ _ _ _ _ (Mem.base (by omega) m2) (.cons _ _ _ _ _ _ (Mem.base (by omega) m3) (.cons _ _ _ _ _ _ (Mem.base (by omega) m4) (.cons _ _ _ _ _ _ (Mem.base (by omega) m5) (.cons _ _ _ _ _ _ (Mem.base (by omega) m6) (.cons _ _ _ _ _ _ (Mem.base (by omega) m7) (.nil))))))))
theorem msgC_n_bare : ∀ (n : Nat) (x : Ms) (w : World) (xs : List Value) (B : Nat) (G : List Nat), SizeOf.sizeOf x < n → MemL w B (Ms.dv Ty0 x) xs G → x.Few → Calls Tryz.prog 85 #[.func (.func 49) #[] #[], .agg xs.toArray] w fun e w' => ∃ vs G, e = .returned (.agg vs) ∧ MemL w' w.heap.size (Ms.dv Ty0 (Ms.bare x)) vs.toList G ∧ Kn w w'
  | 0, x, w, xs, B, G, h, hx, hf => absurd h (Nat.not_lt_zero _)
  | n + 1, x, w, xs, B, G, h, hx, hf => msgC_step_bare hx ((Ms.few_iff x).1 hf) fun z hz W zs B G h1 h2 => msgC_n_bare n z W zs B G (by have := Ms.sub_lt hz; omega) h1 h2
theorem msgC_bare (z : Ms) (W : World) (zs : List Value) (B : Nat) (G : List Nat) (h : MemL W B (Ms.dv Ty0 z) zs G) (hf : z.Few) : Calls Tryz.prog 85 #[.func (.func 49) #[] #[], .agg zs.toArray] W fun e W' => ∃ vs G, e = .returned (.agg vs) ∧ MemL W' W.heap.size (Ms.dv Ty0 (Ms.bare z)) vs.toList G ∧ Kn W W' := msgC_n_bare _ z W zs B G (Nat.lt_succ_self _) h hf
def treeC_bareV (x : Tr) (q r : Nat) (A1 A2 A3 A4 : Option Addr) (c1 c2 c3 c4 : Nat) : Nat → Value → Prop
  | 0, v => v = .pointer (some ⟨q, 0, none⟩)
  | 1, v => v = .string x.pkg
  | 2, v => v = .string x.pkg
  | 3, v => v = .pointer (some ⟨q, 1, none⟩)
  | 4, v => v = .slice A1 x.imps.length c1
  | 5, v => v = .func (.func 49) #[] #[]
  | 6, v => v = .func (.func 83) #[.func (.func 49) #[] #[]] #[]
  | 8, v => v = .pointer (some ⟨q, 2, none⟩)
  | 9, v => v = .slice A2 x.msgs.length c2
  | 10, v => v = .func (.func 49) #[] #[]
  | 11, v => v = .func (.func 85) #[.func (.func 49) #[] #[]] #[]
  | 13, v => v = .pointer (some ⟨q, 3, none⟩)
  | 14, v => v = .slice A3 x.enums.length c3
  | 15, v => v = .func (.func 49) #[] #[]
  | 16, v => v = .func (.func 87) #[.func (.func 49) #[] #[]] #[]
  | 18, v => v = .pointer (some ⟨q, 4, none⟩)
  | 19, v => v = .slice A4 x.svcs.length c4
  | 20, v => v = .func (.func 49) #[] #[]
  | 21, v => v = .func (.func 89) #[.func (.func 49) #[] #[]] #[]
  | _, _ => True
def treeC_bareP (x : Tr) (r B : Nat) (w1 : World) : Nat → (Nat → Value) → World → Prop
  | 7, d, W => ∃ G, Mem W B (lsD 37 3 Im.dv (x.imps.map Im.bare)) (d 7) G
  | 12, d, W => ∃ G, Mem W B (lsD 49 8 (Ms.dv Ty0) (x.msgs.map Ms.bare)) (d 12) G
  | 17, d, W => ∃ G, Mem W B (lsD 52 5 (En.dv Ty0) (x.enums.map En.bare)) (d 17) G
  | 22, d, W => ∃ G, Mem W B (lsD 86 3 (Sv.dv Ty0) (x.svcs.map Sv.bare)) (d 22) G
  | 23, d, W => d 23 = .agg #[.string x.pkg, d 7, d 12, d 17, d 22]
  | 24, d, W => ∃ a1 b1 G1 a2 b2 G2 a3 b3 G3 a4 b4 G4, Blk W r 27 #[.string x.pkg, .slice a1 x.imps.length b1, .slice a2 x.msgs.length b2, .slice a3 x.enums.length b3, .slice a4 x.svcs.length b4] ∧ Mem W B (lsD 37 3 Im.dv (x.imps.map Im.bare)) (.slice a1 x.imps.length b1) G1 ∧ Mem W B (lsD 49 8 (Ms.dv Ty0) (x.msgs.map Ms.bare)) (.slice a2 x.msgs.length b2) G2 ∧ Mem W B (lsD 52 5 (En.dv Ty0) (x.enums.map En.bare)) (.slice a3 x.enums.length b3) G3 ∧ Mem W B (lsD 86 3 (Sv.dv Ty0) (x.svcs.map Sv.bare)) (.slice a4 x.svcs.length b4) G4 ∧ Kp (fun k => k = r) w1 W
  | 25, _, W => Kn w1 W
  | _, _, _ => True
def treeC_bareF (r : Nat) (i : Nat) (W W' : World) : Prop := if i = 24 then Kp (fun k => k = r) W W' else Kn W W'
set_option maxRecDepth 100000 in
set_option maxHeartbeats 8000000 in
theorem treeC_bare {x : Tr} {w : World} {B0 : Nat} {xs : List Value} {G0 : List Nat} (hx : MemL w B0 (Tr.dv Ty0 x) xs G0) (hfw : x.Few) :
    Calls Tryz.prog 48 #[.func (.func 49) #[] #[], .agg xs.toArray] w fun e w' => ∃ vs G, e = .returned (.agg vs) ∧ MemL w' w.heap.size (Tr.dv Ty0 (Tr.bare x)) vs.toList G ∧ Kn w w' := by
  obtain ⟨A1, c1, F1, A2, c2, F2, A3, c3, F3, A4, c4, F4, rfl, x1, x2, x3, x4⟩ := Tr.q hx
  have HFW := Lib.hid hfw
  have X1 := Lib.hid x1
  have X2 := Lib.hid x2
  have X3 := Lib.hid x3
  have X4 := Lib.hid x4
  clear hx hfw x1 x2 x3 x4
  go_enter Tryz.func48, Tryz.ntmps48
  go_wp2_with fail
  have HB := Lib.hid ((Blk.new w 27 #[.string x.pkg, .slice A1 x.imps.length c1, .slice A2 x.msgs.length c2, .slice A3 x.enums.length c3, .slice A4 x.svcs.length c4]).alloc (.cells #[.string ⟨#[]⟩, .slice none 0 0, .slice none 0 0, .slice none 0 0, .slice none 0 0] 27))
  have HR := Lib.hid (show Blk _ (w.heap.size + 1) 27 #[.string ⟨#[]⟩, .slice none 0 0, .slice none 0 0, .slice none 0 0, .slice none 0 0] by have := Blk.new (w.alloc (.cells #[.string x.pkg, .slice A1 x.imps.length c1, .slice A2 x.msgs.length c2, .slice A3 x.enums.length c3, .slice A4 x.svcs.length c4] 27)) 27 #[.string ⟨#[]⟩, .slice none 0 0, .slice none 0 0, .slice none 0 0, .slice none 0 0]; simpa using this)
  have HK0 := Lib.hid (show Kn w _ from ((Kp.refl (fun _ => False) w).alloc (.cells #[.string x.pkg, .slice A1 x.imps.length c1, .slice A2 x.msgs.length c2, .slice A3 x.enums.length c3, .slice A4 x.svcs.length c4] 27)).alloc (.cells #[.string ⟨#[]⟩, .slice none 0 0, .slice none 0 0, .slice none 0 0, .slice none 0 0] 27))
  have HS := Lib.hid (show ((w.alloc (.cells #[.string x.pkg, .slice A1 x.imps.length c1, .slice A2 x.msgs.length c2, .slice A3 x.enums.length c3, .slice A4 x.svcs.length c4] 27)).alloc (.cells #[.string ⟨#[]⟩, .slice none 0 0, .slice none 0 0, .slice none 0 0, .slice none 0 0] 27)).heap.size = w.heap.size + 2 by simp)
  obtain ⟨q, hq⟩ : ∃ q, q = w.heap.size := ⟨_, rfl⟩
  have HQ := Lib.hid hq
  simp only [← hq] at HB HR HS ⊢
  clear hq
  generalize World.alloc (World.alloc w _) _ = w1 at *
  have HE1 := Lib.hid (fun (W : World) (hk : Kn w1 W) => eachIm_bare (X1.out.kn (HK0.out.trans hk)) HFW.out.imps)
  have HE2 := Lib.hid (fun (W : World) (hk : Kn w1 W) => eachMs_bare (X2.out.kn (HK0.out.trans hk)) HFW.out.msgs (fun z _ => msgC_bare z))
  have HE3 := Lib.hid (fun (W : World) (hk : Kn w1 W) => eachEn_bare (X3.out.kn (HK0.out.trans hk)) HFW.out.enums)
  have HE4 := Lib.hid (fun (W : World) (hk : Kn w1 W) => eachSv_bare (X4.out.kn (HK0.out.trans hk)) HFW.out.svcs)
  refine wp_region_flow (by kernel_rfl) 29 1 3 (fun i => match i with | 1 => [25] | 4 => [25] | 7 => [25] | 9 => [25] | 12 => [25] | 14 => [25] | 17 => [25] | 19 => [25] | 22 => [25] | 23 => [7, 12, 17, 22] | 24 => [23, 7, 12, 17, 22, 25] | _ => []) (fun _ => []) (fun i => match i with | 24 => [7, 12, 17, 22, 23, 25] | _ => []) (fun i => ([5, 6, 7, 8, 9, 10, 11, 12, 13, 14, 15, 16, 17, 18, 19, 20, 21, 22, 23, 24, 25, 26, 27, 28, 53, 54] : List Nat).getD i 0) (by kernel_rfl) rfl [5, 6, 7, 8, 9, 10, 11, 12, 13, 14, 15, 16, 17, 18, 19, 20, 21, 22, 23, 24, 25, 26, 27, 28, 53, 54] (by kernel_rfl)
    (treeC_bareF (q + 1)) (treeC_bareV x q (q + 1) A1 A2 A3 A4 c1 c2 c3 c4) (treeC_bareP x (q + 1) w1.heap.size w1) ?cong ?st ?t0 ?op ?skip ?done
  case cong =>
    intro i d d' W hi hj h
    have hi : i < 26 := hi
    by_cases i7 : i = 7
    · subst i7
      have e7 := hj 7 (.inl rfl)
      simp only [treeC_bareP] at h ⊢
      rw [← e7]
      exact h
    by_cases i12 : i = 12
    · subst i12
      have e12 := hj 12 (.inl rfl)
      simp only [treeC_bareP] at h ⊢
      rw [← e12]
      exact h
    by_cases i17 : i = 17
    · subst i17
      have e17 := hj 17 (.inl rfl)
      simp only [treeC_bareP] at h ⊢
      rw [← e17]
      exact h
    by_cases i22 : i = 22
    · subst i22
      have e22 := hj 22 (.inl rfl)
      simp only [treeC_bareP] at h ⊢
      rw [← e22]
      exact h
    by_cases i23 : i = 23
    · subst i23
      have e23 := hj 23 (.inl rfl)
      have e7 := hj 7 (.inr (by kernel_rfl))
      have e12 := hj 12 (.inr (by kernel_rfl))
      have e17 := hj 17 (.inr (by kernel_rfl))
      have e22 := hj 22 (.inr (by kernel_rfl))
      simp only [treeC_bareP] at h ⊢
      rw [← e23, ← e7, ← e12, ← e17, ← e22]
      exact h
    obtain rfl | rfl | rfl | rfl | rfl | rfl | rfl | rfl | rfl | rfl | rfl | rfl | rfl | rfl | rfl | rfl | rfl | rfl | rfl | rfl | rfl : i = 0 ∨ i = 1 ∨ i = 2 ∨ i = 3 ∨ i = 4 ∨ i = 5 ∨ i = 6 ∨ i = 8 ∨ i = 9 ∨ i = 10 ∨ i = 11 ∨ i = 13 ∨ i = 14 ∨ i = 15 ∨ i = 16 ∨ i = 18 ∨ i = 19 ∨ i = 20 ∨ i = 21 ∨ i = 24 ∨ i = 25 := by omega
    all_goals exact h
  case st =>
    intro i j d W W' hi hj hij hsp hr h hF
    have hi : i < 25 := hi
    have hj : j < 26 := hj
    unfold treeC_bareF at hF
    by_cases hs : i = 24
    · rw [if_pos hs] at hF
      subst hs
      by_cases hjs : j = 7 ∨ j = 12 ∨ j = 17 ∨ j = 22 ∨ j = 23 ∨ j = 25
      · exfalso
        rcases hjs with rfl | rfl | rfl | rfl | rfl | rfl
        all_goals exact hsp (by simp)
      · obtain rfl | rfl | rfl | rfl | rfl | rfl | rfl | rfl | rfl | rfl | rfl | rfl | rfl | rfl | rfl | rfl | rfl | rfl | rfl : j = 0 ∨ j = 1 ∨ j = 2 ∨ j = 3 ∨ j = 4 ∨ j = 5 ∨ j = 6 ∨ j = 8 ∨ j = 9 ∨ j = 10 ∨ j = 11 ∨ j = 13 ∨ j = 14 ∨ j = 15 ∨ j = 16 ∨ j = 18 ∨ j = 19 ∨ j = 20 ∨ j = 21 := by omega
        all_goals trivial
    · rw [if_neg hs] at hF
      by_cases hje : j = 7 ∨ j = 12 ∨ j = 17 ∨ j = 22
      · rcases hje with rfl | rfl | rfl | rfl
        all_goals exact h.imp fun G hm => Mem.kn hm hF
      by_cases hjb : j = 23
      · subst hjb; exact h
      by_cases hjn : j = 25
      · subst hjn; exact Kp.trans h hF
      by_cases hjs : j = 24
      · exfalso
        subst hjs
        obtain rfl | rfl | rfl | rfl | rfl | rfl | rfl | rfl | rfl | rfl | rfl | rfl | rfl | rfl | rfl | rfl | rfl | rfl | rfl | rfl | rfl | rfl | rfl | rfl : i = 0 ∨ i = 1 ∨ i = 2 ∨ i = 3 ∨ i = 4 ∨ i = 5 ∨ i = 6 ∨ i = 7 ∨ i = 8 ∨ i = 9 ∨ i = 10 ∨ i = 11 ∨ i = 12 ∨ i = 13 ∨ i = 14 ∨ i = 15 ∨ i = 16 ∨ i = 17 ∨ i = 18 ∨ i = 19 ∨ i = 20 ∨ i = 21 ∨ i = 22 ∨ i = 23 := by omega
        all_goals exact absurd (show reach _ 3 _ _ = true by kernel_rfl) (by rw [hr]; decide)
      · obtain rfl | rfl | rfl | rfl | rfl | rfl | rfl | rfl | rfl | rfl | rfl | rfl | rfl | rfl | rfl | rfl | rfl | rfl | rfl : j = 0 ∨ j = 1 ∨ j = 2 ∨ j = 3 ∨ j = 4 ∨ j = 5 ∨ j = 6 ∨ j = 8 ∨ j = 9 ∨ j = 10 ∨ j = 11 ∨ j = 13 ∨ j = 14 ∨ j = 15 ∨ j = 16 ∨ j = 18 ∨ j = 19 ∨ j = 20 ∨ j = 21 := by omega
        all_goals trivial
  case t0 =>
    intro j d hj
    obtain rfl : j = 0 := by omega
    exact Kp.drew (Kp.refl _ _)
  case op =>
    intro i o ho u W hdep hV _ _ K hK
    simp only [over, List.foldl_cons, List.foldl_nil, List.setIfInBounds_toArray, List.set_cons_zero, List.set_cons_succ, List.set_nil, List.getD_cons_zero, List.getD_cons_succ, Array.getD_eq_getD_getElem?, List.getElem?_toArray] at hK hdep hV ⊢
    match i, ho with
    | 0, ho =>
      simp only [List.getElem?_toArray, List.getElem?_cons_zero, List.getElem?_cons_succ, Option.some.injEq] at ho
      subst ho
      go_wp2
      exact hK _ _ rfl trivial (Kp.refl _ _)
    | 1, ho =>
      simp only [List.getElem?_toArray, List.getElem?_cons_zero, List.getElem?_cons_succ, Option.some.injEq] at ho
      subst ho
      have v0 : u 5 = .pointer (some ⟨q, 0, none⟩) := hV 0 (by kernel_rfl)
      obtain hk := hdep 25 (by simp)
      have hc := Blk.cell (HB.out.kp hk (fun f => f)) 0
      simp only [List.getElem?_toArray, List.getElem?_cons_zero, List.getElem?_cons_succ] at hc
      simp only [v0] at hK ⊢
      go_wp2
      exact hK _ _ rfl trivial (Kp.refl _ _)
    | 2, ho =>
      simp only [List.getElem?_toArray, List.getElem?_cons_zero, List.getElem?_cons_succ, Option.some.injEq] at ho
      subst ho
      have v1 : u 6 = .string x.pkg := hV 1 (by kernel_rfl)
      simp only [v1] at hK ⊢
      go_wp2_with fail
      refine (cloneQ_any _ _ HFW.out.pkg).mono ?_
      rintro e w2 ⟨rfl, hk2⟩
      exact hK _ _ rfl trivial hk2
    | 3, ho =>
      simp only [List.getElem?_toArray, List.getElem?_cons_zero, List.getElem?_cons_succ, Option.some.injEq] at ho
      subst ho
      go_wp2
      exact hK _ _ rfl trivial (Kp.refl _ _)
    | 4, ho =>
      simp only [List.getElem?_toArray, List.getElem?_cons_zero, List.getElem?_cons_succ, Option.some.injEq] at ho
      subst ho
      have v3 : u 8 = .pointer (some ⟨q, 1, none⟩) := hV 3 (by kernel_rfl)
      obtain hk := hdep 25 (by simp)
      have hc := Blk.cell (HB.out.kp hk (fun f => f)) 1
      simp only [List.getElem?_toArray, List.getElem?_cons_zero, List.getElem?_cons_succ] at hc
      simp only [v3] at hK ⊢
      go_wp2
      exact hK _ _ rfl trivial (Kp.refl _ _)
    | 5, ho =>
      simp only [List.getElem?_toArray, List.getElem?_cons_zero, List.getElem?_cons_succ, Option.some.injEq] at ho
      subst ho
      go_wp2
      exact hK _ _ rfl trivial (Kp.refl _ _)
    | 6, ho =>
      simp only [List.getElem?_toArray, List.getElem?_cons_zero, List.getElem?_cons_succ, Option.some.injEq] at ho
      subst ho
      have v5 : u 10 = .func (.func 49) #[] #[] := hV 5 (by kernel_rfl)
      simp only [v5] at hK ⊢
      go_wp2
      exact hK _ _ rfl trivial (Kp.refl _ _)
    | 7, ho =>
      simp only [List.getElem?_toArray, List.getElem?_cons_zero, List.getElem?_cons_succ, Option.some.injEq] at ho
      subst ho
      have v4 : u 9 = .slice A1 x.imps.length c1 := hV 4 (by kernel_rfl)
      have v6 : u 11 = .func (.func 83) #[.func (.func 49) #[] #[]] #[] := hV 6 (by kernel_rfl)
      obtain hk := hdep 25 (by simp)
      simp only [v4, v6] at hK ⊢
      go_wp2_with fail
      refine (HE1.out W hk).mono ?_
      rintro e w2 ⟨v, G, rfl, hm, hk2⟩
      exact hK _ _ trivial ⟨G, Mem.base hk.size hm⟩ hk2
    | 8, ho =>
      simp only [List.getElem?_toArray, List.getElem?_cons_zero, List.getElem?_cons_succ, Option.some.injEq] at ho
      subst ho
      go_wp2
      exact hK _ _ rfl trivial (Kp.refl _ _)
    | 9, ho =>
      simp only [List.getElem?_toArray, List.getElem?_cons_zero, List.getElem?_cons_succ, Option.some.injEq] at ho
      subst ho
      have v8 : u 13 = .pointer (some ⟨q, 2, none⟩) := hV 8 (by kernel_rfl)
      obtain hk := hdep 25 (by simp)
      have hc := Blk.cell (HB.out.kp hk (fun f => f)) 2
      simp only [List.getElem?_toArray, List.getElem?_cons_zero, List.getElem?_cons_succ] at hc
      simp only [v8] at hK ⊢
      go_wp2
      exact hK _ _ rfl trivial (Kp.refl _ _)
    | 10, ho =>
      simp only [List.getElem?_toArray, List.getElem?_cons_zero, List.getElem?_cons_succ, Option.some.injEq] at ho
      subst ho
      go_wp2
      exact hK _ _ rfl trivial (Kp.refl _ _)
    | 11, ho =>
      simp only [List.getElem?_toArray, List.getElem?_cons_zero, List.getElem?_cons_succ, Option.some.injEq] at ho
      subst ho
      have v10 : u 15 = .func (.func 49) #[] #[] := hV 10 (by kernel_rfl)
      simp only [v10] at hK ⊢
      go_wp2
      exact hK _ _ rfl trivial (Kp.refl _ _)
    | 12, ho =>
      simp only [List.getElem?_toArray, List.getElem?_cons_zero, List.getElem?_cons_succ, Option.some.injEq] at ho
      subst ho
      have v9 : u 14 = .slice A2 x.msgs.length c2 := hV 9 (by kernel_rfl)
      have v11 : u 16 = .func (.func 85) #[.func (.func 49) #[] #[]] #[] := hV 11 (by kernel_rfl)
      obtain hk := hdep 25 (by simp)
      simp only [v9, v11] at hK ⊢
      go_wp2_with fail
      refine (HE2.out W hk).mono ?_
      rintro e w2 ⟨v, G, rfl, hm, hk2⟩
      exact hK _ _ trivial ⟨G, Mem.base hk.size hm⟩ hk2
    | 13, ho =>
      simp only [List.getElem?_toArray, List.getElem?_cons_zero, List.getElem?_cons_succ, Option.some.injEq] at ho
      subst ho
      go_wp2
      exact hK _ _ rfl trivial (Kp.refl _ _)
    | 14, ho =>
      simp only [List.getElem?_toArray, List.getElem?_cons_zero, List.getElem?_cons_succ, Option.some.injEq] at ho
      subst ho
      have v13 : u 18 = .pointer (some ⟨q, 3, none⟩) := hV 13 (by kernel_rfl)
      obtain hk := hdep 25 (by simp)
      have hc := Blk.cell (HB.out.kp hk (fun f => f)) 3
      simp only [List.getElem?_toArray, List.getElem?_cons_zero, List.getElem?_cons_succ] at hc
      simp only [v13] at hK ⊢
      go_wp2
      exact hK _ _ rfl trivial (Kp.refl _ _)
    | 15, ho =>
      simp only [List.getElem?_toArray, List.getElem?_cons_zero, List.getElem?_cons_succ, Option.some.injEq] at ho
      subst ho
      go_wp2
      exact hK _ _ rfl trivial (Kp.refl _ _)
    | 16, ho =>
      simp only [List.getElem?_toArray, List.getElem?_cons_zero, List.getElem?_cons_succ, Option.some.injEq] at ho
      subst ho
      have v15 : u 20 = .func (.func 49) #[] #[] := hV 15 (by kernel_rfl)
      simp only [v15] at hK ⊢
      go_wp2
      exact hK _ _ rfl trivial (Kp.refl _ _)
    | 17, ho =>
      simp only [List.getElem?_toArray, List.getElem?_cons_zero, List.getElem?_cons_succ, Option.some.injEq] at ho
      subst ho
      have v14 : u 19 = .slice A3 x.enums.length c3 := hV 14 (by kernel_rfl)
      have v16 : u 21 = .func (.func 87) #[.func (.func 49) #[] #[]] #[] := hV 16 (by kernel_rfl)
      obtain hk := hdep 25 (by simp)
      simp only [v14, v16] at hK ⊢
      go_wp2_with fail
      refine (HE3.out W hk).mono ?_
      rintro e w2 ⟨v, G, rfl, hm, hk2⟩
      exact hK _ _ trivial ⟨G, Mem.base hk.size hm⟩ hk2
    | 18, ho =>
      simp only [List.getElem?_toArray, List.getElem?_cons_zero, List.getElem?_cons_succ, Option.some.injEq] at ho
      subst ho
      go_wp2
      exact hK _ _ rfl trivial (Kp.refl _ _)
    | 19, ho =>
      simp only [List.getElem?_toArray, List.getElem?_cons_zero, List.getElem?_cons_succ, Option.some.injEq] at ho
      subst ho
      have v18 : u 23 = .pointer (some ⟨q, 4, none⟩) := hV 18 (by kernel_rfl)
      obtain hk := hdep 25 (by simp)
      have hc := Blk.cell (HB.out.kp hk (fun f => f)) 4
      simp only [List.getElem?_toArray, List.getElem?_cons_zero, List.getElem?_cons_succ] at hc
      simp only [v18] at hK ⊢
      go_wp2
      exact hK _ _ rfl trivial (Kp.refl _ _)
    | 20, ho =>
      simp only [List.getElem?_toArray, List.getElem?_cons_zero, List.getElem?_cons_succ, Option.some.injEq] at ho
      subst ho
      go_wp2
      exact hK _ _ rfl trivial (Kp.refl _ _)
    | 21, ho =>
      simp only [List.getElem?_toArray, List.getElem?_cons_zero, List.getElem?_cons_succ, Option.some.injEq] at ho
      subst ho
      have v20 : u 25 = .func (.func 49) #[] #[] := hV 20 (by kernel_rfl)
      simp only [v20] at hK ⊢
      go_wp2
      exact hK _ _ rfl trivial (Kp.refl _ _)
    | 22, ho =>
      simp only [List.getElem?_toArray, List.getElem?_cons_zero, List.getElem?_cons_succ, Option.some.injEq] at ho
      subst ho
      have v19 : u 24 = .slice A4 x.svcs.length c4 := hV 19 (by kernel_rfl)
      have v21 : u 26 = .func (.func 89) #[.func (.func 49) #[] #[]] #[] := hV 21 (by kernel_rfl)
      obtain hk := hdep 25 (by simp)
      simp only [v19, v21] at hK ⊢
      go_wp2_with fail
      refine (HE4.out W hk).mono ?_
      rintro e w2 ⟨v, G, rfl, hm, hk2⟩
      exact hK _ _ trivial ⟨G, Mem.base hk.size hm⟩ hk2
    | 23, ho =>
      simp only [List.getElem?_toArray, List.getElem?_cons_zero, List.getElem?_cons_succ, Option.some.injEq] at ho
      subst ho
      have v2 : u 7 = .string x.pkg := hV 2 (by kernel_rfl)
      obtain ⟨G1, m1⟩ := hdep 7 (by simp)
      obtain ⟨a1, b1, s1, -⟩ := m1.sl_q
      rw [List.length_map] at s1
      replace s1 : u 12 = .slice a1 x.imps.length b1 := s1
      obtain ⟨G2, m2⟩ := hdep 12 (by simp)
      obtain ⟨a2, b2, s2, -⟩ := m2.sl_q
      rw [List.length_map] at s2
      replace s2 : u 17 = .slice a2 x.msgs.length b2 := s2
      obtain ⟨G3, m3⟩ := hdep 17 (by simp)
      obtain ⟨a3, b3, s3, -⟩ := m3.sl_q
      rw [List.length_map] at s3
      replace s3 : u 22 = .slice a3 x.enums.length b3 := s3
      obtain ⟨G4, m4⟩ := hdep 22 (by simp)
      obtain ⟨a4, b4, s4, -⟩ := m4.sl_q
      rw [List.length_map] at s4
      replace s4 : u 27 = .slice a4 x.svcs.length b4 := s4
      simp only [v2] at hK ⊢
      simp only [s1, s2, s3, s4] at hK ⊢
      go_wp2
      refine hK _ _ trivial ?_ (Kp.refl _ _)
      show Value.agg #[.string x.pkg, .slice a1 x.imps.length b1, .slice a2 x.msgs.length b2, .slice a3 x.enums.length b3, .slice a4 x.svcs.length b4] = Value.agg #[.string x.pkg, u 12, u 17, u 22, u 27]
      rw [s1, s2, s3, s4]
    | 24, ho =>
      simp only [List.getElem?_toArray, List.getElem?_cons_zero, List.getElem?_cons_succ, Option.some.injEq] at ho
      subst ho
      obtain hbd := hdep 23 (by simp)
      obtain ⟨G1, m1⟩ := hdep 7 (by simp)
      obtain ⟨G2, m2⟩ := hdep 12 (by simp)
      obtain ⟨G3, m3⟩ := hdep 17 (by simp)
      obtain ⟨G4, m4⟩ := hdep 22 (by simp)
      obtain hk := hdep 25 (by simp)
      obtain ⟨a1, b1, s1, -⟩ := m1.sl_q
      rw [List.length_map] at s1
      replace s1 : u 12 = .slice a1 x.imps.length b1 := s1
      obtain ⟨a2, b2, s2, -⟩ := m2.sl_q
      rw [List.length_map] at s2
      replace s2 : u 17 = .slice a2 x.msgs.length b2 := s2
      obtain ⟨a3, b3, s3, -⟩ := m3.sl_q
      rw [List.length_map] at s3
      replace s3 : u 22 = .slice a3 x.enums.length b3 := s3
      obtain ⟨a4, b4, s4, -⟩ := m4.sl_q
      rw [List.length_map] at s4
      replace s4 : u 27 = .slice a4 x.svcs.length b4 := s4
      replace hbd : u 28 = .agg #[.string x.pkg, u 12, u 17, u 22, u 27] := hbd
      rw [s1, s2, s3, s4] at hbd
      have hr1 := HR.out.kp hk (fun f => f)
      have rc0 := Blk.cell hr1 0
      have rf0 := Blk.frozen hr1 0
      have rc1 := Blk.cell hr1 1
      have rf1 := Blk.frozen hr1 1
      have rc2 := Blk.cell hr1 2
      have rf2 := Blk.frozen hr1 2
      have rc3 := Blk.cell hr1 3
      have rf3 := Blk.frozen hr1 3
      have rc4 := Blk.cell hr1 4
      have rf4 := Blk.frozen hr1 4
      simp only [List.getElem?_toArray, List.getElem?_cons_zero, List.getElem?_cons_succ] at rc0 rc1 rc2 rc3 rc4
      simp only [hbd] at hK ⊢
      have hBW := HS.out
      have S1 := Lib.hid s1
      clear s1
      have S2 := Lib.hid s2
      clear s2
      have S3 := Lib.hid s3
      clear s3
      have S4 := Lib.hid s4
      clear s4
      go_wp2
      have hfr : Kp (fun k => k = q + 1) W _ := (Kp.setCell (p := ⟨q + 1, 4, none⟩) (Kp.setCell (p := ⟨q + 1, 3, none⟩) (Kp.setCell (p := ⟨q + 1, 2, none⟩) (Kp.setCell (p := ⟨q + 1, 1, none⟩) (Kp.setCell (p := ⟨q + 1, 0, none⟩) (Kp.refl (fun k => k = q + 1) W) (fun _ => rfl) (.string x.pkg)) (fun _ => rfl) (.slice a1 x.imps.length b1)) (fun _ => rfl) (.slice a2 x.msgs.length b2)) (fun _ => rfl) (.slice a3 x.enums.length b3)) (fun _ => rfl) (.slice a4 x.svcs.length b4))
      exact hK undef _ trivial ⟨a1, b1, G1, a2, b2, G2, a3, b3, G3, a4, b4, G4, (Blk.set_ (Blk.set_ (Blk.set_ (Blk.set_ (Blk.set_ hr1 0 (.string x.pkg)) 1 (.slice a1 x.imps.length b1)) 2 (.slice a2 x.msgs.length b2)) 3 (.slice a3 x.enums.length b3)) 4 (.slice a4 x.svcs.length b4)), Mem.stays (S1.out ▸ m1) (fun g hg => hfr.block g (Mem.lt m1 g hg).2 (by have := (Mem.lt m1 g hg).1; omega)), Mem.stays (S2.out ▸ m2) (fun g hg => hfr.block g (Mem.lt m2 g hg).2 (by have := (Mem.lt m2 g hg).1; omega)), Mem.stays (S3.out ▸ m3) (fun g hg => hfr.block g (Mem.lt m3 g hg).2 (by have := (Mem.lt m3 g hg).1; omega)), Mem.stays (S4.out ▸ m4) (fun g hg => hfr.block g (Mem.lt m4 g hg).2 (by have := (Mem.lt m4 g hg).1; omega)), (Kp.trans (Kp.mono (T := fun k => k = q + 1) hk (fun _ f _ => f.elim)) hfr)⟩ hfr
    | k + 25, ho => simp at ho
  case skip =>
    intro i o g b ho hg
    rw [no_guard (by kernel_rfl) ho] at hg
    cases hg
  case done =>
    intro u W hV hP
    obtain ⟨a1, b1, G1, a2, b2, G2, a3, b3, G3, a4, b4, G4, hb, m1, m2, m3, m4, hk⟩ := hP 24 (by decide) (by decide)
    clear hV hP
    have f0 := Blk.cell hb 0
    have f1 := Blk.cell hb 1
    have f2 := Blk.cell hb 2
    have f3 := Blk.cell hb 3
    have f4 := Blk.cell hb 4
    simp only [List.getElem?_toArray, List.getElem?_cons_zero, List.getElem?_cons_succ] at f0 f1 f2 f3 f4
    simp only [over, List.foldl_cons, List.foldl_nil, List.setIfInBounds_toArray, List.set_cons_zero, List.set_cons_succ, List.set_nil, List.getD_cons_zero, List.getD_cons_succ, Array.getD_eq_getD_getElem?, List.getElem?_toArray]
    go_wp2_with fail
    have hqw := HQ.out
    have hsw := HS.out
    refine bodyPost_ret (v := .agg #[.string x.pkg, .slice a1 x.imps.length b1, .slice a2 x.msgs.length b2, .slice a3 x.enums.length b3, .slice a4 x.svcs.length b4]) (by simp [results, Tryz.results48, go_sem, f0, f1, f2, f3, f4]) rfl ⟨#[.string x.pkg, .slice a1 x.imps.length b1, .slice a2 x.msgs.length b2, .slice a3 x.enums.length b3, .slice a4 x.svcs.length b4], ([] ++ (G1 ++ (G2 ++ (G3 ++ (G4 ++ []))))), rfl, ?_, Kp.trans' HK0.out hk (fun i e hi => by omega)⟩
    exact .cons _ _ [] _ _ _ (.at_ _ rfl) (.cons _ _ _ _ _ _ (Mem.base (by omega) m1) (.cons _ _ _ _ _ _ (Mem.base (by omega) m2) (.cons _ _ _ _ _ _ (Mem.base (by omega) m3) (.cons _ _ _ _ _ _ (Mem.base (by omega) m4) (.nil)))))
end Go.Proofs.YthmdaejlopjjoaaGreatDoor
