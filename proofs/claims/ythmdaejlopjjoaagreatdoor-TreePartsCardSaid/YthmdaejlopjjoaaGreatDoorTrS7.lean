/-
  TreeParts: the walk of the law.
-/
import Derived.Test.YthmdaejlopjjoaaGreatDoorTrPv
import Derived.Test.YthmdaejlopjjoaaGreatDoorTrPw
namespace Go.Proofs.YthmdaejlopjjoaaGreatDoor
open Go.RowKit
set_option linter.unusedVariables false
set_option linter.unusedSimpArgs false

theorem Kn.ofBelow {a b : World} (h : Below a.heap.size a b) : Kn a b := (Kp.of_below h).mono fun i e hi => by omega
theorem rdn_nil (w : World) (hi : Nat) : RdN w hi none 0 0 [] := ⟨rfl, Nat.le_refl _, Nat.zero_le _, fun h => absurd h (by omega)⟩
theorem gdWz : ∀ {l : List Wd}, Gd l → Wz l
  | [], _ => fun w h => by cases h
  | [x], h => fun w hw => by
    rw [List.mem_singleton.1 hw]
    have h1 : WdB x := Gd.hd h
    exact h1.t
  | x :: y :: l, h => fun w hw => by
    rcases List.mem_cons.1 hw with rfl | hw
    · have h1 : WdB w := h.1
      exact h1.t
    · exact gdWz h.2.2 w hw
theorem resX_few (s : ByteArray) : (resX (parseR s)).Few := by
  have hz : zTr.Few := ⟨sm_none, Ls.nil, Ls.nil, Ls.nil, Ls.nil⟩
  unfold parseR
  split
  · exact hz
  · rename_i h
    have := fileP_sz dnK (gdWz (words_gd (by simpa using h)).1)
    cases hr : fileP dnK (wordsR s).l with
    | no p c => exact hz
    | ok x l => rw [hr] at this; exact this.2
theorem kNone_l {s : ByteArray} : s.toList = [] ↔ s = kNone := by
  rw [show ([] : List UInt8) = kNone.toList from by rw [ByteArray.toList_eq]]
  exact tl_iff _ _
theorem gap_nil (i : Nat) : gapF [] i = [32] := rfl
theorem Tryz.info37p : (Tryz.prog.info? 37).map (fun i => (i.zero, i.size, i.bytes)) = some (some (.agg #[.string ⟨#[]⟩, .bool false, .int .i64 0]), 3, 32) := by kernel_rfl
theorem Tryz.info49p : (Tryz.prog.info? 49).map (fun i => (i.zero, i.size, i.bytes)) = some (some (.agg #[.string ⟨#[]⟩, .int .i64 0, .slice none 0 0, .slice none 0 0, .slice none 0 0, .slice none 0 0, .slice none 0 0, .slice none 0 0]), 8, 168) := by kernel_rfl
theorem Tryz.info52p : (Tryz.prog.info? 52).map (fun i => (i.zero, i.size, i.bytes)) = some (some (.agg #[.string ⟨#[]⟩, .int .i64 0, .slice none 0 0, .slice none 0 0, .slice none 0 0]), 5, 96) := by kernel_rfl
theorem Tryz.info86p : (Tryz.prog.info? 86).map (fun i => (i.zero, i.size, i.bytes)) = some (some (.agg #[.string ⟨#[]⟩, .int .i64 0, .slice none 0 0]), 3, 48) := by kernel_rfl
theorem want_mem {w : World} {x1 x2 : Tr} {v1 v2 v3 v4 : Value} {F1 F2 F3 F4 : List Nat} (n1 : Mem w 0 (.sl 37 3 (x1.imps.length + x2.imps.length) (x1.imps.flatMap Im.dv ++ x2.imps.flatMap Im.dv)) v1 F1) (n2 : Mem w 0 (.sl 49 8 (x1.msgs.length + x2.msgs.length) (x1.msgs.flatMap (Ms.dv Ty0) ++ x2.msgs.flatMap (Ms.dv Ty0))) v2 F2) (n3 : Mem w 0 (.sl 52 5 (x1.enums.length + x2.enums.length) (x1.enums.flatMap (En.dv Ty0) ++ x2.enums.flatMap (En.dv Ty0))) v3 F3) (n4 : Mem w 0 (.sl 86 3 (x1.svcs.length + x2.svcs.length) (x1.svcs.flatMap (Sv.dv Ty0) ++ x2.svcs.flatMap (Sv.dv Ty0))) v4 F4) :
    MemL w 0 (Tr.dv Ty0 (wantT x1 x2)) [.string ⟨#[]⟩, v1, v2, v3, v4] ([] ++ (F1 ++ (F2 ++ (F3 ++ (F4 ++ []))))) := by
  rw [← List.flatMap_append, ← List.length_append] at n1 n2 n3 n4
  exact .cons _ _ [] _ _ _ (.at_ _ rfl) (.cons _ _ _ _ _ _ n1 (.cons _ _ _ _ _ _ n2 (.cons _ _ _ _ _ _ n3 (.cons _ _ _ _ _ _ n4 .nil))))
def ptT : Nat → Nat
  | 3 => 37
  | 6 => 37
  | 10 => 49
  | 13 => 49
  | 17 => 52
  | 20 => 52
  | 24 => 86
  | 27 => 86
  | 30 => 27
  | _ => 0
theorem ptT_37 {i : Nat} (h : 37 = ptT i) : i = 3 ∨ i = 6 := by unfold ptT at h; split at h <;> simp_all
theorem ptT_49 {i : Nat} (h : 49 = ptT i) : i = 10 ∨ i = 13 := by unfold ptT at h; split at h <;> simp_all
theorem ptT_52 {i : Nat} (h : 52 = ptT i) : i = 17 ∨ i = 20 := by unfold ptT at h; split at h <;> simp_all
theorem ptT_86 {i : Nat} (h : 86 = ptT i) : i = 24 ∨ i = 27 := by unfold ptT at h; split at h <;> simp_all
theorem ptT_27 {i : Nat} (h : 27 = ptT i) : i = 30 := by unfold ptT at h; split at h <;> simp_all
def ptV (x1 x2 : Tr) (b1 b2 : Nat) (A1 A2 A3 A4 D1 D2 D3 D4 : Option Addr) (a1 a2 a3 a4 d1 d2 d3 d4 : Nat) : Nat → Value → Prop
  | 1, v => v = .pointer (some ⟨b1, 1, none⟩)
  | 2, v => v = .slice A1 x1.imps.length a1
  | 4, v => v = .pointer (some ⟨b2, 1, none⟩)
  | 5, v => v = .slice D1 x2.imps.length d1
  | 8, v => v = .pointer (some ⟨b1, 2, none⟩)
  | 9, v => v = .slice A2 x1.msgs.length a2
  | 11, v => v = .pointer (some ⟨b2, 2, none⟩)
  | 12, v => v = .slice D2 x2.msgs.length d2
  | 15, v => v = .pointer (some ⟨b1, 3, none⟩)
  | 16, v => v = .slice A3 x1.enums.length a3
  | 18, v => v = .pointer (some ⟨b2, 3, none⟩)
  | 19, v => v = .slice D3 x2.enums.length d3
  | 22, v => v = .pointer (some ⟨b1, 4, none⟩)
  | 23, v => v = .slice A4 x1.svcs.length a4
  | 25, v => v = .pointer (some ⟨b2, 4, none⟩)
  | 26, v => v = .slice D4 x2.svcs.length d4
  | _, _ => True
def ptP (x1 x2 : Tr) (B : Nat) (w7 : World) : Nat → (Nat → Value) → World → Prop
  | 0, d, W => OwnQ B W (d 0) 37 3 0 []
  | 3, d, W => OwnQ B W (d 3) 37 3 x1.imps.length (x1.imps.flatMap Im.dv)
  | 6, d, W => OwnQ B W (d 6) 37 3 (x1.imps.length + x2.imps.length) (x1.imps.flatMap Im.dv ++ x2.imps.flatMap Im.dv)
  | 7, d, W => OwnQ B W (d 7) 49 8 0 []
  | 10, d, W => OwnQ B W (d 10) 49 8 x1.msgs.length (x1.msgs.flatMap (Ms.dv Ty0))
  | 13, d, W => OwnQ B W (d 13) 49 8 (x1.msgs.length + x2.msgs.length) (x1.msgs.flatMap (Ms.dv Ty0) ++ x2.msgs.flatMap (Ms.dv Ty0))
  | 14, d, W => OwnQ B W (d 14) 52 5 0 []
  | 17, d, W => OwnQ B W (d 17) 52 5 x1.enums.length (x1.enums.flatMap (En.dv Ty0))
  | 20, d, W => OwnQ B W (d 20) 52 5 (x1.enums.length + x2.enums.length) (x1.enums.flatMap (En.dv Ty0) ++ x2.enums.flatMap (En.dv Ty0))
  | 21, d, W => OwnQ B W (d 21) 86 3 0 []
  | 24, d, W => OwnQ B W (d 24) 86 3 x1.svcs.length (x1.svcs.flatMap (Sv.dv Ty0))
  | 27, d, W => OwnQ B W (d 27) 86 3 (x1.svcs.length + x2.svcs.length) (x1.svcs.flatMap (Sv.dv Ty0) ++ x2.svcs.flatMap (Sv.dv Ty0))
  | 28, d, _ => d 28 = .agg #[.string ⟨#[]⟩, d 6, d 13, d 20, d 27]
  | 29, d, W => ∃ r, d 29 = .pointer (some ⟨r, 0, none⟩) ∧ B ≤ r ∧ Blk W r 27 #[.string ⟨#[]⟩, .slice none 0 0, .slice none 0 0, .slice none 0 0, .slice none 0 0]
  | 30, d, W => ∃ (r : Nat) (vs : Array Value) (F : List Nat), d 29 = .pointer (some ⟨r, 0, none⟩) ∧ Blk W r 27 vs ∧ MemL W 0 (Tr.dv Ty0 (wantT x1 x2)) vs.toList F ∧ Kp (fun k => B ≤ k) w7 W
  | 31, _, W => Kp (fun k => B ≤ k) w7 W
  | _, _, _ => True
set_option maxRecDepth 100000 in
set_option maxHeartbeats 16000000 in
theorem parts_any (l k : List Int) (A A' : Option Addr) (n c n' c' : Nat) (w : World) (hE : Env w) (hl : RdN w w.heap.size A n c l) (hk : RdN w w.heap.size A' n' c' k) :
    Calls Tryz.prog 6 #[.slice A n c, .slice A' n' c'] w fun e w' => e = .returned (.bool true) ∧ Below w.heap.size w w' := by
  have HE := Lib.hid hE
  have HL := Lib.hid hl
  have HN := Lib.hid hk
  clear hE hl hk
  go_enter Tryz.func6, Tryz.ntmps6
  go_wp2_with fail
  refine (spread_any l [] A none n c 0 0 w.heap.size 0 _ HL.out (rdn_nil _ _) (Nat.le_refl _) (Nat.zero_le _)).mono ?_
  rintro e w1 ⟨s1, t1, rfl, hs1, -, hk1⟩
  have HK1 := Lib.hid hk1
  have HS1 := Lib.hid hs1
  clear hs1 hk1
  go_wp2_with fail
  refine (spread_any k [] A' none n' c' 0 0 w.heap.size 0 _ (HN.out.kn HK1.out (Nat.le_refl _)) (rdn_nil _ _) HK1.out.size (Nat.zero_le _)).mono ?_
  rintro e w2 ⟨s2, t2, rfl, hs2, -, hk2⟩
  have HK2 := Lib.hid (HK1.out.trans hk2)
  have HS2 := Lib.hid hs2
  clear hs2 hk2
  have z1 : s1.size ≤ 1456 := by
    have := congrArg List.length HS1.out
    have := prs_few (fun _ => gap32_ok) l (min n 60)
    simp at *; omega
  have z2 : s2.size ≤ 1456 ∧ 16 ≤ s2.size := by
    have h1 := congrArg List.length HS2.out
    have := prs_few (fun _ => gap32_ok) k (min n' 60)
    have h3 : (txL (prs (fun _ => [32]) k (min n' 60))).length = 16 + ((prs (fun _ => [32]) k (min n' 60)).flatMap fun q => q.1 ++ q.2.t).length := by unfold txL; rw [List.length_append]; rfl
    simp at *; omega
  obtain ⟨z2, z2'⟩ := z2
  obtain ⟨s3, hs3r, hs3⟩ := str_add s1 (s2.extract 16 s2.size) (by simp; omega)
  have HS3 := Lib.hid (show s3.data.toList = s1.data.toList ++ s2.data.toList.drop 16 by
    rw [hs3]
    congr 1
    rw [ext_list, List.take_of_length_le (by simp)])
  have z3 : s3.size ≤ 2912 := by
    have := congrArg List.length HS3.out
    simp at this; omega
  have HPS := Lib.hid (parts_same (s3 := s3) (by omega) (by omega) HS1.out HS2.out HS3.out)
  have HP1 := Lib.hid (fun (W : World) (hk : Kn w W) => parse_x s1 W (HE.out.below (Kp.to_below hk (fun k f => f.elim) (Nat.le_refl _))) (by omega))
  have HP2 := Lib.hid (fun (W : World) (hk : Kn w W) => parse_x s2 W (HE.out.below (Kp.to_below hk (fun k f => f.elim) (Nat.le_refl _))) (by omega))
  have HP3 := Lib.hid (fun (W : World) (hk : Kn w W) => parse_x s3 W (HE.out.below (Kp.to_below hk (fun k f => f.elim) (Nat.le_refl _))) (by omega))
  have HF1 := Lib.hid (resX_few s1)
  have HF2 := Lib.hid (resX_few s2)
  generalize resX (parseR s1) = x1 at *
  generalize resX (parseR s2) = x2 at *
  generalize resX (parseR s3) = x3 at *
  generalize resE (parseR s1) = e1 at *
  generalize resE (parseR s2) = e2 at *
  generalize resE (parseR s3) = e3 at *
  clear hs3
  go_wp2_with fail
  refine (HP1.out _ HK2.out).mono ?_
  rintro e w3 ⟨p1, vs1, F1, rfl, hm1, hb3⟩
  have HM1 := Lib.hid hm1
  have HK3 := Lib.hid (HK2.out.trans (Kn.ofBelow hb3))
  obtain ⟨A1, a1, G1, A2, a2, G2, A3, a3, G3, A4, a4, G4, hv1, -⟩ := Tr.q hm1
  obtain rfl : vs1 = #[.string x1.pkg, .slice A1 x1.imps.length a1, .slice A2 x1.msgs.length a2, .slice A3 x1.enums.length a3, .slice A4 x1.svcs.length a4] := by rw [← Array.toArray_toList (xs := vs1), hv1]
  have HB1 := Lib.hid (Blk.new w3 27 #[.string x1.pkg, .slice A1 x1.imps.length a1, .slice A2 x1.msgs.length a2, .slice A3 x1.enums.length a3, .slice A4 x1.svcs.length a4])
  have HK3' := Lib.hid (HK3.out.alloc (.cells #[.string x1.pkg, .slice A1 x1.imps.length a1, .slice A2 x1.msgs.length a2, .slice A3 x1.enums.length a3, .slice A4 x1.svcs.length a4] 27))
  have HM1' := Lib.hid (HM1.out.kn ((Kp.refl (fun _ => False) w3).alloc (.cells #[.string x1.pkg, .slice A1 x1.imps.length a1, .slice A2 x1.msgs.length a2, .slice A3 x1.enums.length a3, .slice A4 x1.svcs.length a4] 27)))
  clear hm1 hb3 hv1
  go_wp2_with fail
  refine (HP2.out _ HK3'.out).mono ?_
  rintro e w4 ⟨p2, vs2, F2, rfl, hm2, hb4⟩
  have HM2 := Lib.hid hm2
  have hk4 := Kn.ofBelow hb4
  have HK4 := Lib.hid (HK3'.out.trans hk4)
  obtain ⟨D1, d1, J1, D2, d2, J2, D3, d3, J3, D4, d4, J4, hv2, -⟩ := Tr.q hm2
  obtain rfl : vs2 = #[.string x2.pkg, .slice D1 x2.imps.length d1, .slice D2 x2.msgs.length d2, .slice D3 x2.enums.length d3, .slice D4 x2.svcs.length d4] := by rw [← Array.toArray_toList (xs := vs2), hv2]
  have hal := (Kp.refl (fun _ => False) w4).alloc (.cells #[.string x2.pkg, .slice D1 x2.imps.length d1, .slice D2 x2.msgs.length d2, .slice D3 x2.enums.length d3, .slice D4 x2.svcs.length d4] 27)
  have HC1 := Lib.hid ((HB1.out.kp hk4 (fun f => f)).alloc (.cells #[.string x2.pkg, .slice D1 x2.imps.length d1, .slice D2 x2.msgs.length d2, .slice D3 x2.enums.length d3, .slice D4 x2.svcs.length d4] 27))
  have HC2 := Lib.hid (Blk.new w4 27 #[.string x2.pkg, .slice D1 x2.imps.length d1, .slice D2 x2.msgs.length d2, .slice D3 x2.enums.length d3, .slice D4 x2.svcs.length d4])
  have HM1x := Lib.hid ((HM1'.out.kn hk4).kn hal)
  have HM2x := Lib.hid (HM2.out.kn hal)
  have HK5 := Lib.hid (HK4.out.trans hal)
  have HWK := Lib.hid (fun (W : World) (hk : Kn w W) => works_any W (HE.out.below (Kp.to_below hk (fun k f => f.elim) (Nat.le_refl _))))
  clear hm2 hb4 hk4 hv2 hal HB1 HM1 HM1' HM2 HP1 HP2 HK1 HK2 HK3 HK3' HK4 HL HN HS1 HS2 HS3
  have c1 := HC1.out.cell 0
  have c1b := HC1.out.cell 1
  have c2 := HC2.out.cell 0
  have c2b := HC2.out.cell 1
  simp only [List.getElem?_toArray, List.getElem?_cons_zero, List.getElem?_cons_succ] at c1 c1b c2 c2b
  have l1 := HF1.out.imps.len
  have l2 := HF2.out.imps.len
  have hfin : ∀ W : World, Kn w W → ∀ (b : Bool), b = true → (Ending.returned (.bool b) : Ending) = .returned (.bool true) ∧ Below w.heap.size w W := fun W hk b hb => ⟨by rw [hb], Kp.to_below hk (fun k f => f.elim) (Nat.le_refl _)⟩
  by_cases q1 : e1 = 0
  · by_cases q2 : e2 = 0
    · by_cases q3 : x1.pkg = kNone
      · have q3' : x1.pkg.toList = [] := kNone_l.2 q3
        have HQ3 := Lib.hid q3
        clear q3
        by_cases q4 : x2.pkg = kNone
        · have q4' : x2.pkg.toList = [] := kNone_l.2 q4
          have HQ4 := Lib.hid q4
          clear q4
          by_cases q5 : x1.imps.length + x2.imps.length ≤ 16
          · have q5' : ¬ (16 : Int) < (x1.imps.length : Int) + (x2.imps.length : Int) := by omega
            subst q1
            subst q2
            obtain ⟨he3, hbare⟩ := HPS.out rfl rfl HQ3.out HQ4.out q5
            have HEQ := Lib.hid ((Tr.eqB_iff _ _).2 hbare)
            subst he3
            clear hbare HPS
            go_wp2_with fail
            refine (HP3.out _ HK5.out).mono ?_
            rintro e w6 ⟨p3, vs3, F3, rfl, hm3, hb6⟩
            obtain ⟨E1, g1, L1, E2, g2, L2, E3, g3, L3, E4, g4, L4, hv3, -⟩ := Tr.q hm3
            obtain rfl : vs3 = #[.string x3.pkg, .slice E1 x3.imps.length g1, .slice E2 x3.msgs.length g2, .slice E3 x3.enums.length g3, .slice E4 x3.svcs.length g4] := by rw [← Array.toArray_toList (xs := vs3), hv3]
            have hk6 := Kn.ofBelow hb6
            have hal := (Kp.refl (fun _ => False) w6).alloc (.cells #[.string x3.pkg, .slice E1 x3.imps.length g1, .slice E2 x3.msgs.length g2, .slice E3 x3.enums.length g3, .slice E4 x3.svcs.length g4] 27)
            have HD1 := Lib.hid ((HC1.out.kp hk6 (fun f => f)).kp hal (fun f => f))
            have HD2 := Lib.hid ((HC2.out.kp hk6 (fun f => f)).kp hal (fun f => f))
            have HC3 := Lib.hid (Blk.new w6 27 #[.string x3.pkg, .slice E1 x3.imps.length g1, .slice E2 x3.msgs.length g2, .slice E3 x3.enums.length g3, .slice E4 x3.svcs.length g4])
            have HN1 := Lib.hid ((HM1x.out.kn hk6).kn hal)
            have HN2 := Lib.hid ((HM2x.out.kn hk6).kn hal)
            have HM3 := Lib.hid (hm3.kn hal)
            have HK7 := Lib.hid ((HK5.out.trans hk6).trans hal)
            clear hm3 hb6 hk6 hal hv3 c1 c1b c2 c2b HC1 HC2 HM1x HM2x HP3 HK5
            go_wp2_with fail
            have HC1 := HD1
            have HC2 := HD2
            clear HD1 HD2
            generalize World.alloc w6 _ = w7 at *
            generalize w6.heap.size = b3 at *
            generalize w4.heap.size = b2 at *
            generalize w3.heap.size = b1 at *
            obtain ⟨y1, y2, y3, y4⟩ := Tr.rows HN1.out
            have X11 := Lib.hid y1
            have X12 := Lib.hid y2
            have X13 := Lib.hid y3
            have X14 := Lib.hid y4
            obtain ⟨y1, y2, y3, y4⟩ := Tr.rows HN2.out
            have X21 := Lib.hid y1
            have X22 := Lib.hid y2
            have X23 := Lib.hid y3
            have X24 := Lib.hid y4
            clear y1 y2 y3 y4 HN1 HN2
            refine wp_region_flow (by kernel_rfl) 116 1 3 (fun i => match i with | 0 => [31] | 2 => [31] | 3 => [0, 31] | 5 => [31] | 6 => [3, 31] | 7 => [31] | 9 => [31] | 10 => [7, 31] | 12 => [31] | 13 => [10, 31] | 14 => [31] | 16 => [31] | 17 => [14, 31] | 19 => [31] | 20 => [17, 31] | 21 => [31] | 23 => [31] | 24 => [21, 31] | 26 => [31] | 27 => [24, 31] | 28 => [6, 13, 20, 27] | 29 => [31] | 30 => [28, 29, 6, 13, 20, 27, 31] | _ => []) (fun _ => []) (fun i => match i with | 3 => [0] | 6 => [0, 3] | 10 => [7] | 13 => [7, 10] | 17 => [14] | 20 => [14, 17] | 24 => [21] | 27 => [21, 24] | 30 => [6, 13, 20, 27, 28, 29] | _ => []) (fun i => ([77, 78, 79, 80, 81, 82, 83, 84, 85, 86, 87, 88, 89, 90, 91, 92, 93, 94, 95, 96, 97, 98, 99, 100, 101, 102, 103, 104, 105, 18, 116, 117] : List Nat).getD i 0) (by kernel_rfl) rfl [77, 78, 79, 80, 81, 82, 83, 84, 85, 86, 87, 88, 89, 90, 91, 92, 93, 94, 95, 96, 97, 98, 99, 100, 101, 102, 103, 104, 105, 18, 116, 117] (by kernel_rfl)
              (fun i W W' => Tf w7.heap.size (ptT i) W W') (ptV x1 x2 b1 b2 A1 A2 A3 A4 D1 D2 D3 D4 a1 a2 a3 a4 d1 d2 d3 d4) (ptP x1 x2 w7.heap.size w7) ?cong ?st ?t0 ?op ?skip ?done
            case cong =>
              intro i d d' W hi hj h
              have hi : i < 32 := hi
              by_cases i0 : i = 0
              · subst i0
                have e0 := hj 0 (.inl rfl)
                simp only [ptP] at h ⊢
                rw [← e0]
                exact h
              by_cases i3 : i = 3
              · subst i3
                have e3 := hj 3 (.inl rfl)
                simp only [ptP] at h ⊢
                rw [← e3]
                exact h
              by_cases i6 : i = 6
              · subst i6
                have e6 := hj 6 (.inl rfl)
                simp only [ptP] at h ⊢
                rw [← e6]
                exact h
              by_cases i7 : i = 7
              · subst i7
                have e7 := hj 7 (.inl rfl)
                simp only [ptP] at h ⊢
                rw [← e7]
                exact h
              by_cases i10 : i = 10
              · subst i10
                have e10 := hj 10 (.inl rfl)
                simp only [ptP] at h ⊢
                rw [← e10]
                exact h
              by_cases i13 : i = 13
              · subst i13
                have e13 := hj 13 (.inl rfl)
                simp only [ptP] at h ⊢
                rw [← e13]
                exact h
              by_cases i14 : i = 14
              · subst i14
                have e14 := hj 14 (.inl rfl)
                simp only [ptP] at h ⊢
                rw [← e14]
                exact h
              by_cases i17 : i = 17
              · subst i17
                have e17 := hj 17 (.inl rfl)
                simp only [ptP] at h ⊢
                rw [← e17]
                exact h
              by_cases i20 : i = 20
              · subst i20
                have e20 := hj 20 (.inl rfl)
                simp only [ptP] at h ⊢
                rw [← e20]
                exact h
              by_cases i21 : i = 21
              · subst i21
                have e21 := hj 21 (.inl rfl)
                simp only [ptP] at h ⊢
                rw [← e21]
                exact h
              by_cases i24 : i = 24
              · subst i24
                have e24 := hj 24 (.inl rfl)
                simp only [ptP] at h ⊢
                rw [← e24]
                exact h
              by_cases i27 : i = 27
              · subst i27
                have e27 := hj 27 (.inl rfl)
                simp only [ptP] at h ⊢
                rw [← e27]
                exact h
              by_cases i28 : i = 28
              · subst i28
                have e28 := hj 28 (.inl rfl)
                have e6 := hj 6 (.inr (by kernel_rfl))
                have e13 := hj 13 (.inr (by kernel_rfl))
                have e20 := hj 20 (.inr (by kernel_rfl))
                have e27 := hj 27 (.inr (by kernel_rfl))
                simp only [ptP] at h ⊢
                rw [← e28, ← e6, ← e13, ← e20, ← e27]
                exact h
              by_cases i29 : i = 29
              · subst i29
                have e29 := hj 29 (.inl rfl)
                simp only [ptP] at h ⊢
                rw [← e29]
                exact h
              by_cases i30 : i = 30
              · subst i30
                have e29 := hj 29 (.inr (by kernel_rfl))
                simp only [ptP] at h ⊢
                rw [← e29]
                exact h
              obtain rfl | rfl | rfl | rfl | rfl | rfl | rfl | rfl | rfl | rfl | rfl | rfl | rfl | rfl | rfl | rfl | rfl : i = 1 ∨ i = 2 ∨ i = 4 ∨ i = 5 ∨ i = 8 ∨ i = 9 ∨ i = 11 ∨ i = 12 ∨ i = 15 ∨ i = 16 ∨ i = 18 ∨ i = 19 ∨ i = 22 ∨ i = 23 ∨ i = 25 ∨ i = 26 ∨ i = 31 := by omega
              all_goals exact h
            case st =>
              intro i j d W W' hi hj hij hsp hr h hF
              have hi : i < 31 := hi
              have hj : j < 32 := hj
              by_cases j0 : j = 0
              · subst j0
                refine OwnQ.tf h hF fun he => ?_
                rcases ptT_37 he with rfl | rfl
                · exact hsp (by simp)
                · exact hsp (by simp)
              by_cases j3 : j = 3
              · subst j3
                refine OwnQ.tf h hF fun he => ?_
                rcases ptT_37 he with rfl | rfl
                · exact hij rfl
                · exact hsp (by simp)
              by_cases j6 : j = 6
              · subst j6
                refine OwnQ.tf h hF fun he => ?_
                rcases ptT_37 he with rfl | rfl
                · exact absurd (show reach _ 3 6 3 = true by kernel_rfl) (by rw [hr]; decide)
                · exact hij rfl
              by_cases j7 : j = 7
              · subst j7
                refine OwnQ.tf h hF fun he => ?_
                rcases ptT_49 he with rfl | rfl
                · exact hsp (by simp)
                · exact hsp (by simp)
              by_cases j10 : j = 10
              · subst j10
                refine OwnQ.tf h hF fun he => ?_
                rcases ptT_49 he with rfl | rfl
                · exact hij rfl
                · exact hsp (by simp)
              by_cases j13 : j = 13
              · subst j13
                refine OwnQ.tf h hF fun he => ?_
                rcases ptT_49 he with rfl | rfl
                · exact absurd (show reach _ 3 13 10 = true by kernel_rfl) (by rw [hr]; decide)
                · exact hij rfl
              by_cases j14 : j = 14
              · subst j14
                refine OwnQ.tf h hF fun he => ?_
                rcases ptT_52 he with rfl | rfl
                · exact hsp (by simp)
                · exact hsp (by simp)
              by_cases j17 : j = 17
              · subst j17
                refine OwnQ.tf h hF fun he => ?_
                rcases ptT_52 he with rfl | rfl
                · exact hij rfl
                · exact hsp (by simp)
              by_cases j20 : j = 20
              · subst j20
                refine OwnQ.tf h hF fun he => ?_
                rcases ptT_52 he with rfl | rfl
                · exact absurd (show reach _ 3 20 17 = true by kernel_rfl) (by rw [hr]; decide)
                · exact hij rfl
              by_cases j21 : j = 21
              · subst j21
                refine OwnQ.tf h hF fun he => ?_
                rcases ptT_86 he with rfl | rfl
                · exact hsp (by simp)
                · exact hsp (by simp)
              by_cases j24 : j = 24
              · subst j24
                refine OwnQ.tf h hF fun he => ?_
                rcases ptT_86 he with rfl | rfl
                · exact hij rfl
                · exact hsp (by simp)
              by_cases j27 : j = 27
              · subst j27
                refine OwnQ.tf h hF fun he => ?_
                rcases ptT_86 he with rfl | rfl
                · exact absurd (show reach _ 3 27 24 = true by kernel_rfl) (by rw [hr]; decide)
                · exact hij rfl
              by_cases j28 : j = 28
              · subst j28; exact h
              by_cases j29 : j = 29
              · subst j29
                obtain ⟨r, h1, h2, h3⟩ := h
                refine ⟨r, h1, h2, h3.stays (hF.ty _ _ _ _ h3 fun he => ?_)⟩
                obtain rfl := ptT_27 he
                exact hsp (by simp)
              by_cases j31 : j = 31
              · subst j31; exact Kp.trans h hF.kp
              by_cases j30 : j = 30
              · exfalso
                subst j30
                obtain rfl | rfl | rfl | rfl | rfl | rfl | rfl | rfl | rfl | rfl | rfl | rfl | rfl | rfl | rfl | rfl | rfl | rfl | rfl | rfl | rfl | rfl | rfl | rfl | rfl | rfl | rfl | rfl | rfl | rfl : i = 0 ∨ i = 1 ∨ i = 2 ∨ i = 3 ∨ i = 4 ∨ i = 5 ∨ i = 6 ∨ i = 7 ∨ i = 8 ∨ i = 9 ∨ i = 10 ∨ i = 11 ∨ i = 12 ∨ i = 13 ∨ i = 14 ∨ i = 15 ∨ i = 16 ∨ i = 17 ∨ i = 18 ∨ i = 19 ∨ i = 20 ∨ i = 21 ∨ i = 22 ∨ i = 23 ∨ i = 24 ∨ i = 25 ∨ i = 26 ∨ i = 27 ∨ i = 28 ∨ i = 29 := by omega
                all_goals exact absurd (show reach _ 3 _ _ = true by kernel_rfl) (by rw [hr]; decide)
              obtain rfl | rfl | rfl | rfl | rfl | rfl | rfl | rfl | rfl | rfl | rfl | rfl | rfl | rfl | rfl | rfl : j = 1 ∨ j = 2 ∨ j = 4 ∨ j = 5 ∨ j = 8 ∨ j = 9 ∨ j = 11 ∨ j = 12 ∨ j = 15 ∨ j = 16 ∨ j = 18 ∨ j = 19 ∨ j = 22 ∨ j = 23 ∨ j = 25 ∨ j = 26 := by omega
              all_goals trivial
            case t0 =>
              intro j d hj
              obtain rfl : j = 0 := by omega
              exact Kp.drew (Kp.refl _ _)
            case op =>
              intro i o ho u W hdep hV _ _ K hK
              simp only [over, List.foldl_cons, List.foldl_nil, List.setIfInBounds_toArray, List.set_cons_zero, List.set_cons_succ, List.set_nil, List.getD_cons_zero, List.getD_cons_succ, Array.getD_eq_getD_getElem?, List.getElem?_toArray] at hK hdep hV ⊢
              match i, ho with
              | 0, ho =>
                simp only [List.getElem?_toArray, List.getElem?_cons_zero, List.getElem?_cons_succ, Option.some.injEq] at ho
                subst ho
                have hk : Kp (fun k => w7.heap.size ≤ k) w7 W := hdep 31 (by simp)
                go_wp2_with fail
                exact hK _ _ trivial (OwnQ.nil W 37 3 hk.size) (Tf.of_kn ((Kp.refl _ _).alloc _))
              | 1, ho =>
                simp only [List.getElem?_toArray, List.getElem?_cons_zero, List.getElem?_cons_succ, Option.some.injEq] at ho
                subst ho
                go_wp2
                exact hK _ _ rfl trivial (Tf.of_kn (Kp.refl _ _))
              | 2, ho =>
                simp only [List.getElem?_toArray, List.getElem?_cons_zero, List.getElem?_cons_succ, Option.some.injEq] at ho
                subst ho
                have v : u 78 = .pointer (some ⟨b1, 1, none⟩) := hV 1 (by kernel_rfl)
                have hk : Kp (fun k => w7.heap.size ≤ k) w7 W := hdep 31 (by simp)
                have hc := Blk.cell (HC1.out.kp hk (fun e => by have := HC1.out.lt; omega)) 1
                simp only [List.getElem?_toArray, List.getElem?_cons_zero, List.getElem?_cons_succ] at hc
                simp only [v] at hK ⊢
                go_wp2
                exact hK _ _ rfl trivial (Tf.of_kn (Kp.refl _ _))
              | 3, ho =>
                simp only [List.getElem?_toArray, List.getElem?_cons_zero, List.getElem?_cons_succ, Option.some.injEq] at ho
                subst ho
                have v : u 79 = .slice A1 x1.imps.length a1 := hV 2 (by kernel_rfl)
                have hk : Kp (fun k => w7.heap.size ≤ k) w7 W := hdep 31 (by simp)
                have hq := hdep 0 (by simp)
                simp only [v] at hK ⊢
                obtain ⟨i0, hi0, hz0, hz1, hz2⟩ := info_parts Tryz.info37p
                refine wp_append_row (.tmp 77) (.tmp 79) 22 rfl (v := u 77) (e := 37) (k := 3) (n := 0) (m := x1.imps.length) rfl rfl hq (X11.out.kp hk) i0 _ 32 (by kernel_rfl) hi0 hz0 hz1 hz2 rfl (by decide) (by have := HF1.out.imps.len; omega) (by have := HF1.out.imps.len; omega) (by decide) fun v' w' h2 h3 => hK v' w' trivial ?_ h3
                rw [Nat.zero_add, List.nil_append] at h2
                exact h2
              | 4, ho =>
                simp only [List.getElem?_toArray, List.getElem?_cons_zero, List.getElem?_cons_succ, Option.some.injEq] at ho
                subst ho
                go_wp2
                exact hK _ _ rfl trivial (Tf.of_kn (Kp.refl _ _))
              | 5, ho =>
                simp only [List.getElem?_toArray, List.getElem?_cons_zero, List.getElem?_cons_succ, Option.some.injEq] at ho
                subst ho
                have v : u 81 = .pointer (some ⟨b2, 1, none⟩) := hV 4 (by kernel_rfl)
                have hk : Kp (fun k => w7.heap.size ≤ k) w7 W := hdep 31 (by simp)
                have hc := Blk.cell (HC2.out.kp hk (fun e => by have := HC2.out.lt; omega)) 1
                simp only [List.getElem?_toArray, List.getElem?_cons_zero, List.getElem?_cons_succ] at hc
                simp only [v] at hK ⊢
                go_wp2
                exact hK _ _ rfl trivial (Tf.of_kn (Kp.refl _ _))
              | 6, ho =>
                simp only [List.getElem?_toArray, List.getElem?_cons_zero, List.getElem?_cons_succ, Option.some.injEq] at ho
                subst ho
                have v : u 82 = .slice D1 x2.imps.length d1 := hV 5 (by kernel_rfl)
                have hk : Kp (fun k => w7.heap.size ≤ k) w7 W := hdep 31 (by simp)
                have hq := hdep 3 (by simp)
                simp only [v] at hK ⊢
                obtain ⟨i0, hi0, hz0, hz1, hz2⟩ := info_parts Tryz.info37p
                refine wp_append_row (.tmp 80) (.tmp 82) 22 rfl (v := u 80) (e := 37) (k := 3) (n := x1.imps.length) (m := x2.imps.length) rfl rfl hq (X21.out.kp hk) i0 _ 32 (by kernel_rfl) hi0 hz0 hz1 hz2 rfl (by decide) (by have := HF1.out.imps.len; omega) (by have := HF2.out.imps.len; omega) (by decide) fun v' w' h2 h3 => hK v' w' trivial ?_ h3
                exact h2
              | 7, ho =>
                simp only [List.getElem?_toArray, List.getElem?_cons_zero, List.getElem?_cons_succ, Option.some.injEq] at ho
                subst ho
                have hk : Kp (fun k => w7.heap.size ≤ k) w7 W := hdep 31 (by simp)
                go_wp2_with fail
                exact hK _ _ trivial (OwnQ.nil W 49 8 hk.size) (Tf.of_kn ((Kp.refl _ _).alloc _))
              | 8, ho =>
                simp only [List.getElem?_toArray, List.getElem?_cons_zero, List.getElem?_cons_succ, Option.some.injEq] at ho
                subst ho
                go_wp2
                exact hK _ _ rfl trivial (Tf.of_kn (Kp.refl _ _))
              | 9, ho =>
                simp only [List.getElem?_toArray, List.getElem?_cons_zero, List.getElem?_cons_succ, Option.some.injEq] at ho
                subst ho
                have v : u 85 = .pointer (some ⟨b1, 2, none⟩) := hV 8 (by kernel_rfl)
                have hk : Kp (fun k => w7.heap.size ≤ k) w7 W := hdep 31 (by simp)
                have hc := Blk.cell (HC1.out.kp hk (fun e => by have := HC1.out.lt; omega)) 2
                simp only [List.getElem?_toArray, List.getElem?_cons_zero, List.getElem?_cons_succ] at hc
                simp only [v] at hK ⊢
                go_wp2
                exact hK _ _ rfl trivial (Tf.of_kn (Kp.refl _ _))
              | 10, ho =>
                simp only [List.getElem?_toArray, List.getElem?_cons_zero, List.getElem?_cons_succ, Option.some.injEq] at ho
                subst ho
                have v : u 86 = .slice A2 x1.msgs.length a2 := hV 9 (by kernel_rfl)
                have hk : Kp (fun k => w7.heap.size ≤ k) w7 W := hdep 31 (by simp)
                have hq := hdep 7 (by simp)
                simp only [v] at hK ⊢
                obtain ⟨i0, hi0, hz0, hz1, hz2⟩ := info_parts Tryz.info49p
                refine wp_append_row (.tmp 84) (.tmp 86) 23 rfl (v := u 84) (e := 49) (k := 8) (n := 0) (m := x1.msgs.length) rfl rfl hq (X12.out.kp hk) i0 _ 168 (by kernel_rfl) hi0 hz0 hz1 hz2 rfl (by decide) (by have := HF1.out.msgs.len; omega) (by have := HF1.out.msgs.len; omega) (by decide) fun v' w' h2 h3 => hK v' w' trivial ?_ h3
                rw [Nat.zero_add, List.nil_append] at h2
                exact h2
              | 11, ho =>
                simp only [List.getElem?_toArray, List.getElem?_cons_zero, List.getElem?_cons_succ, Option.some.injEq] at ho
                subst ho
                go_wp2
                exact hK _ _ rfl trivial (Tf.of_kn (Kp.refl _ _))
              | 12, ho =>
                simp only [List.getElem?_toArray, List.getElem?_cons_zero, List.getElem?_cons_succ, Option.some.injEq] at ho
                subst ho
                have v : u 88 = .pointer (some ⟨b2, 2, none⟩) := hV 11 (by kernel_rfl)
                have hk : Kp (fun k => w7.heap.size ≤ k) w7 W := hdep 31 (by simp)
                have hc := Blk.cell (HC2.out.kp hk (fun e => by have := HC2.out.lt; omega)) 2
                simp only [List.getElem?_toArray, List.getElem?_cons_zero, List.getElem?_cons_succ] at hc
                simp only [v] at hK ⊢
                go_wp2
                exact hK _ _ rfl trivial (Tf.of_kn (Kp.refl _ _))
              | 13, ho =>
                simp only [List.getElem?_toArray, List.getElem?_cons_zero, List.getElem?_cons_succ, Option.some.injEq] at ho
                subst ho
                have v : u 89 = .slice D2 x2.msgs.length d2 := hV 12 (by kernel_rfl)
                have hk : Kp (fun k => w7.heap.size ≤ k) w7 W := hdep 31 (by simp)
                have hq := hdep 10 (by simp)
                simp only [v] at hK ⊢
                obtain ⟨i0, hi0, hz0, hz1, hz2⟩ := info_parts Tryz.info49p
                refine wp_append_row (.tmp 87) (.tmp 89) 23 rfl (v := u 87) (e := 49) (k := 8) (n := x1.msgs.length) (m := x2.msgs.length) rfl rfl hq (X22.out.kp hk) i0 _ 168 (by kernel_rfl) hi0 hz0 hz1 hz2 rfl (by decide) (by have := HF1.out.msgs.len; omega) (by have := HF2.out.msgs.len; omega) (by decide) fun v' w' h2 h3 => hK v' w' trivial ?_ h3
                exact h2
              | 14, ho =>
                simp only [List.getElem?_toArray, List.getElem?_cons_zero, List.getElem?_cons_succ, Option.some.injEq] at ho
                subst ho
                have hk : Kp (fun k => w7.heap.size ≤ k) w7 W := hdep 31 (by simp)
                go_wp2_with fail
                exact hK _ _ trivial (OwnQ.nil W 52 5 hk.size) (Tf.of_kn ((Kp.refl _ _).alloc _))
              | 15, ho =>
                simp only [List.getElem?_toArray, List.getElem?_cons_zero, List.getElem?_cons_succ, Option.some.injEq] at ho
                subst ho
                go_wp2
                exact hK _ _ rfl trivial (Tf.of_kn (Kp.refl _ _))
              | 16, ho =>
                simp only [List.getElem?_toArray, List.getElem?_cons_zero, List.getElem?_cons_succ, Option.some.injEq] at ho
                subst ho
                have v : u 92 = .pointer (some ⟨b1, 3, none⟩) := hV 15 (by kernel_rfl)
                have hk : Kp (fun k => w7.heap.size ≤ k) w7 W := hdep 31 (by simp)
                have hc := Blk.cell (HC1.out.kp hk (fun e => by have := HC1.out.lt; omega)) 3
                simp only [List.getElem?_toArray, List.getElem?_cons_zero, List.getElem?_cons_succ] at hc
                simp only [v] at hK ⊢
                go_wp2
                exact hK _ _ rfl trivial (Tf.of_kn (Kp.refl _ _))
              | 17, ho =>
                simp only [List.getElem?_toArray, List.getElem?_cons_zero, List.getElem?_cons_succ, Option.some.injEq] at ho
                subst ho
                have v : u 93 = .slice A3 x1.enums.length a3 := hV 16 (by kernel_rfl)
                have hk : Kp (fun k => w7.heap.size ≤ k) w7 W := hdep 31 (by simp)
                have hq := hdep 14 (by simp)
                simp only [v] at hK ⊢
                obtain ⟨i0, hi0, hz0, hz1, hz2⟩ := info_parts Tryz.info52p
                refine wp_append_row (.tmp 91) (.tmp 93) 24 rfl (v := u 91) (e := 52) (k := 5) (n := 0) (m := x1.enums.length) rfl rfl hq (X13.out.kp hk) i0 _ 96 (by kernel_rfl) hi0 hz0 hz1 hz2 rfl (by decide) (by have := HF1.out.enums.len; omega) (by have := HF1.out.enums.len; omega) (by decide) fun v' w' h2 h3 => hK v' w' trivial ?_ h3
                rw [Nat.zero_add, List.nil_append] at h2
                exact h2
              | 18, ho =>
                simp only [List.getElem?_toArray, List.getElem?_cons_zero, List.getElem?_cons_succ, Option.some.injEq] at ho
                subst ho
                go_wp2
                exact hK _ _ rfl trivial (Tf.of_kn (Kp.refl _ _))
              | 19, ho =>
                simp only [List.getElem?_toArray, List.getElem?_cons_zero, List.getElem?_cons_succ, Option.some.injEq] at ho
                subst ho
                have v : u 95 = .pointer (some ⟨b2, 3, none⟩) := hV 18 (by kernel_rfl)
                have hk : Kp (fun k => w7.heap.size ≤ k) w7 W := hdep 31 (by simp)
                have hc := Blk.cell (HC2.out.kp hk (fun e => by have := HC2.out.lt; omega)) 3
                simp only [List.getElem?_toArray, List.getElem?_cons_zero, List.getElem?_cons_succ] at hc
                simp only [v] at hK ⊢
                go_wp2
                exact hK _ _ rfl trivial (Tf.of_kn (Kp.refl _ _))
              | 20, ho =>
                simp only [List.getElem?_toArray, List.getElem?_cons_zero, List.getElem?_cons_succ, Option.some.injEq] at ho
                subst ho
                have v : u 96 = .slice D3 x2.enums.length d3 := hV 19 (by kernel_rfl)
                have hk : Kp (fun k => w7.heap.size ≤ k) w7 W := hdep 31 (by simp)
                have hq := hdep 17 (by simp)
                simp only [v] at hK ⊢
                obtain ⟨i0, hi0, hz0, hz1, hz2⟩ := info_parts Tryz.info52p
                refine wp_append_row (.tmp 94) (.tmp 96) 24 rfl (v := u 94) (e := 52) (k := 5) (n := x1.enums.length) (m := x2.enums.length) rfl rfl hq (X23.out.kp hk) i0 _ 96 (by kernel_rfl) hi0 hz0 hz1 hz2 rfl (by decide) (by have := HF1.out.enums.len; omega) (by have := HF2.out.enums.len; omega) (by decide) fun v' w' h2 h3 => hK v' w' trivial ?_ h3
                exact h2
              | 21, ho =>
                simp only [List.getElem?_toArray, List.getElem?_cons_zero, List.getElem?_cons_succ, Option.some.injEq] at ho
                subst ho
                have hk : Kp (fun k => w7.heap.size ≤ k) w7 W := hdep 31 (by simp)
                go_wp2_with fail
                exact hK _ _ trivial (OwnQ.nil W 86 3 hk.size) (Tf.of_kn ((Kp.refl _ _).alloc _))
              | 22, ho =>
                simp only [List.getElem?_toArray, List.getElem?_cons_zero, List.getElem?_cons_succ, Option.some.injEq] at ho
                subst ho
                go_wp2
                exact hK _ _ rfl trivial (Tf.of_kn (Kp.refl _ _))
              | 23, ho =>
                simp only [List.getElem?_toArray, List.getElem?_cons_zero, List.getElem?_cons_succ, Option.some.injEq] at ho
                subst ho
                have v : u 99 = .pointer (some ⟨b1, 4, none⟩) := hV 22 (by kernel_rfl)
                have hk : Kp (fun k => w7.heap.size ≤ k) w7 W := hdep 31 (by simp)
                have hc := Blk.cell (HC1.out.kp hk (fun e => by have := HC1.out.lt; omega)) 4
                simp only [List.getElem?_toArray, List.getElem?_cons_zero, List.getElem?_cons_succ] at hc
                simp only [v] at hK ⊢
                go_wp2
                exact hK _ _ rfl trivial (Tf.of_kn (Kp.refl _ _))
              | 24, ho =>
                simp only [List.getElem?_toArray, List.getElem?_cons_zero, List.getElem?_cons_succ, Option.some.injEq] at ho
                subst ho
                have v : u 100 = .slice A4 x1.svcs.length a4 := hV 23 (by kernel_rfl)
                have hk : Kp (fun k => w7.heap.size ≤ k) w7 W := hdep 31 (by simp)
                have hq := hdep 21 (by simp)
                simp only [v] at hK ⊢
                obtain ⟨i0, hi0, hz0, hz1, hz2⟩ := info_parts Tryz.info86p
                refine wp_append_row (.tmp 98) (.tmp 100) 25 rfl (v := u 98) (e := 86) (k := 3) (n := 0) (m := x1.svcs.length) rfl rfl hq (X14.out.kp hk) i0 _ 48 (by kernel_rfl) hi0 hz0 hz1 hz2 rfl (by decide) (by have := HF1.out.svcs.len; omega) (by have := HF1.out.svcs.len; omega) (by decide) fun v' w' h2 h3 => hK v' w' trivial ?_ h3
                rw [Nat.zero_add, List.nil_append] at h2
                exact h2
              | 25, ho =>
                simp only [List.getElem?_toArray, List.getElem?_cons_zero, List.getElem?_cons_succ, Option.some.injEq] at ho
                subst ho
                go_wp2
                exact hK _ _ rfl trivial (Tf.of_kn (Kp.refl _ _))
              | 26, ho =>
                simp only [List.getElem?_toArray, List.getElem?_cons_zero, List.getElem?_cons_succ, Option.some.injEq] at ho
                subst ho
                have v : u 102 = .pointer (some ⟨b2, 4, none⟩) := hV 25 (by kernel_rfl)
                have hk : Kp (fun k => w7.heap.size ≤ k) w7 W := hdep 31 (by simp)
                have hc := Blk.cell (HC2.out.kp hk (fun e => by have := HC2.out.lt; omega)) 4
                simp only [List.getElem?_toArray, List.getElem?_cons_zero, List.getElem?_cons_succ] at hc
                simp only [v] at hK ⊢
                go_wp2
                exact hK _ _ rfl trivial (Tf.of_kn (Kp.refl _ _))
              | 27, ho =>
                simp only [List.getElem?_toArray, List.getElem?_cons_zero, List.getElem?_cons_succ, Option.some.injEq] at ho
                subst ho
                have v : u 103 = .slice D4 x2.svcs.length d4 := hV 26 (by kernel_rfl)
                have hk : Kp (fun k => w7.heap.size ≤ k) w7 W := hdep 31 (by simp)
                have hq := hdep 24 (by simp)
                simp only [v] at hK ⊢
                obtain ⟨i0, hi0, hz0, hz1, hz2⟩ := info_parts Tryz.info86p
                refine wp_append_row (.tmp 101) (.tmp 103) 25 rfl (v := u 101) (e := 86) (k := 3) (n := x1.svcs.length) (m := x2.svcs.length) rfl rfl hq (X24.out.kp hk) i0 _ 48 (by kernel_rfl) hi0 hz0 hz1 hz2 rfl (by decide) (by have := HF1.out.svcs.len; omega) (by have := HF2.out.svcs.len; omega) (by decide) fun v' w' h2 h3 => hK v' w' trivial ?_ h3
                exact h2
              | 28, ho =>
                simp only [List.getElem?_toArray, List.getElem?_cons_zero, List.getElem?_cons_succ, Option.some.injEq] at ho
                subst ho
                have m1 := hdep 6 (by simp)
                obtain ⟨p1, q1, s1⟩ := m1.val
                replace s1 : u 83 = .slice p1 (x1.imps.length + x2.imps.length) q1 := s1
                have m2 := hdep 13 (by simp)
                obtain ⟨p2, q2, s2⟩ := m2.val
                replace s2 : u 90 = .slice p2 (x1.msgs.length + x2.msgs.length) q2 := s2
                have m3 := hdep 20 (by simp)
                obtain ⟨p3, q3, s3⟩ := m3.val
                replace s3 : u 97 = .slice p3 (x1.enums.length + x2.enums.length) q3 := s3
                have m4 := hdep 27 (by simp)
                obtain ⟨p4, q4, s4⟩ := m4.val
                replace s4 : u 104 = .slice p4 (x1.svcs.length + x2.svcs.length) q4 := s4
                simp only [s1, s2, s3, s4] at hK ⊢
                go_wp2
                refine hK _ _ trivial ?_ (Tf.of_kn (Kp.refl _ _))
                show Value.agg #[.string ⟨#[]⟩, .slice p1 (x1.imps.length + x2.imps.length) q1, .slice p2 (x1.msgs.length + x2.msgs.length) q2, .slice p3 (x1.enums.length + x2.enums.length) q3, .slice p4 (x1.svcs.length + x2.svcs.length) q4] = Value.agg #[.string ⟨#[]⟩, u 83, u 90, u 97, u 104]
                rw [s1, s2, s3, s4]
              | 29, ho =>
                simp only [List.getElem?_toArray, List.getElem?_cons_zero, List.getElem?_cons_succ, Option.some.injEq] at ho
                subst ho
                have hk : Kp (fun k => w7.heap.size ≤ k) w7 W := hdep 31 (by simp)
                go_wp2
                exact hK _ _ trivial ⟨W.heap.size, rfl, hk.size, Blk.new W 27 _⟩ (Tf.of_kn ((Kp.refl _ _).alloc _))
              | 30, ho =>
                simp only [List.getElem?_toArray, List.getElem?_cons_zero, List.getElem?_cons_succ, Option.some.injEq] at ho
                subst ho
                have m1 := hdep 6 (by simp)
                obtain ⟨p1, q1, s1⟩ := m1.val
                replace s1 : u 83 = .slice p1 (x1.imps.length + x2.imps.length) q1 := s1
                have m2 := hdep 13 (by simp)
                obtain ⟨p2, q2, s2⟩ := m2.val
                replace s2 : u 90 = .slice p2 (x1.msgs.length + x2.msgs.length) q2 := s2
                have m3 := hdep 20 (by simp)
                obtain ⟨p3, q3, s3⟩ := m3.val
                replace s3 : u 97 = .slice p3 (x1.enums.length + x2.enums.length) q3 := s3
                have m4 := hdep 27 (by simp)
                obtain ⟨p4, q4, s4⟩ := m4.val
                replace s4 : u 104 = .slice p4 (x1.svcs.length + x2.svcs.length) q4 := s4
                have hk : Kp (fun k => w7.heap.size ≤ k) w7 W := hdep 31 (by simp)
                have hbd := hdep 28 (by simp)
                replace hbd : u 105 = .agg #[.string ⟨#[]⟩, u 83, u 90, u 97, u 104] := hbd
                rw [s1, s2, s3, s4] at hbd
                obtain ⟨r, hr0, hr2, hr1⟩ := hdep 29 (by simp)
                replace hr0 : u 18 = .pointer (some ⟨r, 0, none⟩) := hr0
                have rc0 := Blk.cell hr1 0
                have rf0 := Blk.frozen hr1 0
                have rc1 := Blk.cell hr1 1
                have rf1 := Blk.frozen hr1 1
                have rc2 := Blk.cell hr1 2
                have rf2 := Blk.frozen hr1 2
                have rc3 := Blk.cell hr1 3
                have rf3 := Blk.frozen hr1 3
                have rc4 := Blk.cell hr1 4
                have rf4 := Blk.frozen hr1 4
                simp only [List.getElem?_toArray, List.getElem?_cons_zero, List.getElem?_cons_succ] at rc0 rc1 rc2 rc3 rc4
                simp only [hbd, hr0] at hK ⊢
                have S1 := Lib.hid s1
                have M1 := Lib.hid m1
                clear s1 m1
                have S2 := Lib.hid s2
                have M2 := Lib.hid m2
                clear s2 m2
                have S3 := Lib.hid s3
                have M3 := Lib.hid m3
                clear s3 m3
                have S4 := Lib.hid s4
                have M4 := Lib.hid m4
                clear s4 m4
                have HR0 := Lib.hid hr0
                have HR1 := Lib.hid hr1
                clear hr0 hr1
                go_wp2
                have hnew := Blk.put5 HR1.out (.string ⟨#[]⟩) (.slice p1 (x1.imps.length + x2.imps.length) q1) (.slice p2 (x1.msgs.length + x2.msgs.length) q2) (.slice p3 (x1.enums.length + x2.enums.length) q3) (.slice p4 (x1.svcs.length + x2.svcs.length) q4)
                have hfr := Kp.put5 (Kp.refl (fun k => k = r) W) (q := r) (fun _ => rfl) (.string ⟨#[]⟩) (.slice p1 (x1.imps.length + x2.imps.length) q1) (.slice p2 (x1.msgs.length + x2.msgs.length) q2) (.slice p3 (x1.enums.length + x2.enums.length) q3) (.slice p4 (x1.svcs.length + x2.svcs.length) q4)
                have htf := Tf.of_set hfr HR1.out hr2
                obtain ⟨F1, n1⟩ := (OwnQ.tf M1.out htf (by decide)).mem
                replace n1 : Mem _ 0 _ (u 83) F1 := n1
                rw [S1.out] at n1
                obtain ⟨F2, n2⟩ := (OwnQ.tf M2.out htf (by decide)).mem
                replace n2 : Mem _ 0 _ (u 90) F2 := n2
                rw [S2.out] at n2
                obtain ⟨F3, n3⟩ := (OwnQ.tf M3.out htf (by decide)).mem
                replace n3 : Mem _ 0 _ (u 97) F3 := n3
                rw [S3.out] at n3
                obtain ⟨F4, n4⟩ := (OwnQ.tf M4.out htf (by decide)).mem
                replace n4 : Mem _ 0 _ (u 104) F4 := n4
                rw [S4.out] at n4
                refine hK undef _ trivial ⟨r, _, [] ++ (F1 ++ (F2 ++ (F3 ++ (F4 ++ [])))), HR0.out, hnew, ?_, Kp.trans hk htf.kp⟩ htf
                exact want_mem n1 n2 n3 n4
              | k + 31, ho => simp at ho
            case skip =>
              intro i o g b ho hg
              rw [no_guard (by kernel_rfl) ho] at hg
              cases hg
            case done =>
              intro u W hV hP
              obtain ⟨r, vs, F, hr0, hb, hm, hk⟩ := hP 30 (by decide) (by decide)
              replace hr0 : u 18 = .pointer (some ⟨r, 0, none⟩) := hr0
              obtain ⟨E1, g1, L1, E2, g2, L2, E3, g3, L3, E4, g4, L4, hv, -⟩ := Tr.q hm
              obtain rfl : vs = #[.string kNone, .slice E1 (wantT x1 x2).imps.length g1, .slice E2 (wantT x1 x2).msgs.length g2, .slice E3 (wantT x1 x2).enums.length g3, .slice E4 (wantT x1 x2).svcs.length g4] := by rw [← Array.toArray_toList (xs := vs), hv]; rfl
              clear hV hP hv
              have hb3 := HC3.out.kp hk (fun e => by have := HC3.out.lt; omega)
              have f0 := Blk.cell hb 0
              have z0 := Blk.cell hb3 0
              have f1 := Blk.cell hb 1
              have z1 := Blk.cell hb3 1
              have f2 := Blk.cell hb 2
              have z2 := Blk.cell hb3 2
              have f3 := Blk.cell hb 3
              have z3 := Blk.cell hb3 3
              have f4 := Blk.cell hb 4
              have z4 := Blk.cell hb3 4
              simp only [List.getElem?_toArray, List.getElem?_cons_zero, List.getElem?_cons_succ] at f0 f1 f2 f3 f4 z0 z1 z2 z3 z4
              simp only [over, List.foldl_cons, List.foldl_nil, List.setIfInBounds_toArray, List.set_cons_zero, List.set_cons_succ, List.set_nil, List.getD_cons_zero, List.getD_cons_succ, Array.getD_eq_getD_getElem?, List.getElem?_toArray]
              simp only [hr0]
              have HSM := Lib.hid (same_any ((HM3.out.stays (fun g hg => hk.block g (MemL.lt HM3.out g hg).2 (by have := (MemL.lt HM3.out g hg).2; omega)))) hm)
              have HKD := Lib.hid (show Kn w W from Kp.trans' HK7.out hk (fun i e hi => by have := HK7.out.size; omega))
              clear hm hk hb hb3 hr0
              go_wp2_with fail
              refine HSM.out.mono ?_
              rintro e w8 ⟨rfl, hk8⟩
              rw [HEQ.out]
              have HK8 := Lib.hid (HKD.out.trans hk8)
              clear hk8
              go_wp2_with fail
              refine (HWK.out _ HK8.out).mono ?_
              rintro e w9 ⟨rfl, hb9⟩
              have HK9 := Lib.hid (HK8.out.trans (Kn.ofBelow hb9))
              clear hb9
              go_wp2_with fail
              refine bodyPost_ret (v := .bool true) (by simp [results, Tryz.results6, go_sem]) rfl (hfin _ HK9.out true rfl)
          · have q5' : (16 : Int) < (x1.imps.length : Int) + (x2.imps.length : Int) := by omega
            subst q1
            subst q2
            go_wp2_with fail
            refine (HWK.out _ HK5.out).mono ?_
            rintro e w9 ⟨rfl, hb9⟩
            have HK9 := Lib.hid (HK5.out.trans (Kn.ofBelow hb9))
            clear hb9
            go_wp2_with fail
            refine bodyPost_ret (v := .bool true) (by simp [results, Tryz.results6, go_sem]) rfl (hfin _ HK9.out true rfl)
        · have q4' : ¬ x2.pkg.toList = [] := fun h => q4 (kNone_l.1 h)
          subst q1
          subst q2
          go_wp2_with fail
          refine (HWK.out _ HK5.out).mono ?_
          rintro e w9 ⟨rfl, hb9⟩
          have HK9 := Lib.hid (HK5.out.trans (Kn.ofBelow hb9))
          clear hb9
          go_wp2_with fail
          refine bodyPost_ret (v := .bool true) (by simp [results, Tryz.results6, go_sem]) rfl (hfin _ HK9.out true rfl)
      · have q3' : ¬ x1.pkg.toList = [] := fun h => q3 (kNone_l.1 h)
        subst q1
        subst q2
        go_wp2_with fail
        refine (HWK.out _ HK5.out).mono ?_
        rintro e w9 ⟨rfl, hb9⟩
        have HK9 := Lib.hid (HK5.out.trans (Kn.ofBelow hb9))
        clear hb9
        go_wp2_with fail
        refine bodyPost_ret (v := .bool true) (by simp [results, Tryz.results6, go_sem]) rfl (hfin _ HK9.out true rfl)
    · have q2' : ¬ (e2 : Int) = 0 := by omega
      subst q1
      go_wp2_with fail
      refine (HWK.out _ HK5.out).mono ?_
      rintro e w9 ⟨rfl, hb9⟩
      have HK9 := Lib.hid (HK5.out.trans (Kn.ofBelow hb9))
      clear hb9
      go_wp2_with fail
      refine bodyPost_ret (v := .bool true) (by simp [results, Tryz.results6, go_sem]) rfl (hfin _ HK9.out true rfl)
  · have q1' : ¬ (e1 : Int) = 0 := by omega
    go_wp2_with fail
    refine (HWK.out _ HK5.out).mono ?_
    rintro e w9 ⟨rfl, hb9⟩
    have HK9 := Lib.hid (HK5.out.trans (Kn.ofBelow hb9))
    clear hb9
    go_wp2_with fail
    refine bodyPost_ret (v := .bool true) (by simp [results, Tryz.results6, go_sem]) rfl (hfin _ HK9.out true rfl)
end Go.Proofs.YthmdaejlopjjoaaGreatDoor
