/-
  TreeBlanks: the walk of the law.
-/
import Derived.Test.YthmdaejlopjjoaaGreatDoorTrS4
import Derived.Test.YthmdaejlopjjoaaGreatDoorTrSp
import Derived.Test.YthmdaejlopjjoaaGreatDoorFlow
namespace Go.Proofs.YthmdaejlopjjoaaGreatDoor
open Go.RowKit
set_option linter.unusedVariables false
set_option linter.unusedSimpArgs false

theorem dnK_er (l : List Wd) : dnK (erL l) = dnK l := by unfold dnK; rw [hdk_er]
/-- What a text of words is read as, but for places. -/
theorem parse_tx {s : ByteArray} {l : List (List UInt8 × Lw)} (hl : ∀ q ∈ l, GpOk q.1 ∧ q.2.Ok) (hs : s.size ≤ 65536) (hd : s.data.toList = txL l) : (parseR s).er Tr.bare = fileP dnK (wdsOf (l.map Prod.snd)) := by
  obtain ⟨h1, h2⟩ := words_tx hl hs hd
  unfold parseR
  rw [if_neg (by rw [h1]; decide), ← fileP_er dnK_er, h2]
theorem tx_size {s : ByteArray} {f : Nat → List UInt8} (hf : ∀ i, GpOk (f i)) {l : List Int} {m : Nat} (hm : m ≤ 60) (hd : s.data.toList = txL (prs f l m)) : s.size ≤ 1456 := by
  have h1 : s.data.toList.length = s.size := by simp
  rw [hd] at h1
  have := prs_few hf l m
  omega
theorem blanks_same {s t : ByteArray} {l ns : List Int} {m : Nat} (hm : m ≤ 60) (h1 : s.data.toList = txL (prs (fun _ => [32]) l m)) (h2 : t.data.toList = txL (prs (gapF ns) l m)) :
    (resT (parseR s)).bare = (resT (parseR t)).bare ∧ resC (parseR s) = resC (parseR t) := by
  have e1 := parse_tx (prs_ok (fun _ => gap32_ok) l m) (by have := tx_size (fun _ => gap32_ok) hm h1; omega) h1
  have e2 := parse_tx (prs_ok (gapF_ok ns) l m) (by have := tx_size (gapF_ok ns) hm h2; omega) h2
  rw [prs_snd (gapF ns) (fun _ => [32]) l m] at e2
  rw [← resT_er, ← resT_er, ← resC_er, ← resC_er (parseR t), e1, e2]
  exact ⟨rfl, rfl⟩
theorem bare_bare (x : Tr) : x.bare.bare = x.bare := by
  have him : ∀ l : List Im, (l.map Im.bare).map Im.bare = l.map Im.bare := fun l => by rw [List.map_map]; rfl
  have hsp : ∀ l : List Sp, (l.map Sp.bare).map Sp.bare = l.map Sp.bare := fun l => by rw [List.map_map]; rfl
  have htx : ∀ l : List Tx, (l.map Tx.bare).map Tx.bare = l.map Tx.bare := fun l => by rw [List.map_map]; rfl
  have hvl : ∀ l : List Vl, (l.map Vl.bare).map Vl.bare = l.map Vl.bare := fun l => by rw [List.map_map]; rfl
  have hfd : ∀ l : List Fd, (l.map Fd.bare).map Fd.bare = l.map Fd.bare := fun l => by rw [List.map_map]; rfl
  have hrp : ∀ l : List Rp, (l.map Rp.bare).map Rp.bare = l.map Rp.bare := fun l => by rw [List.map_map]; rfl
  have hen1 : ∀ x : En, x.bare.bare = x.bare := fun x => by
    unfold En.bare
    simp only [hvl, hsp, htx]
  have hen : ∀ l : List En, (l.map En.bare).map En.bare = l.map En.bare := fun l => by rw [List.map_map]; exact List.map_congr_left fun x _ => hen1 x
  have hsv1 : ∀ x : Sv, x.bare.bare = x.bare := fun x => by
    unfold Sv.bare
    simp only [hrp]
  have hsv : ∀ l : List Sv, (l.map Sv.bare).map Sv.bare = l.map Sv.bare := fun l => by rw [List.map_map]; exact List.map_congr_left fun x _ => hsv1 x
  have hms1 : ∀ (n : Nat) (x : Ms), SizeOf.sizeOf x < n → x.bare.bare = x.bare := by
    intro n
    induction n with
    | zero => intro x h; omega
    | succ n ih =>
      intro x h
      have hsub : (x.msgs.map Ms.bare).map Ms.bare = x.msgs.map Ms.bare := by
        rw [List.map_map]
        exact List.map_congr_left fun z hz => ih z (by have := Ms.sub_lt hz; omega)
      rw [Ms.bare_eq x, Ms.bare_eq]
      simp only [hfd, htx, hsub, hen, hsp]
  have hms : ∀ l : List Ms, (l.map Ms.bare).map Ms.bare = l.map Ms.bare := fun l => by rw [List.map_map]; exact List.map_congr_left fun x _ => hms1 _ x (Nat.lt_succ_self _)
  unfold Tr.bare
  simp only [him, hms, hen, hsv]
def tbV (x1 x2 : Tr) (cc : Nat) (A1 A2 A3 A4 D1 D2 D3 D4 : Option Addr) (a1 a2 a3 a4 d1 d2 d3 d4 : Nat) : Nat → Value → Prop
  | 0, v => v = .int .i64 cc
  | 1, v => v = .int .i64 cc
  | 2, v => v = .bool true
  | 3, v => v = .bool true
  | 4, v => v = .agg #[.string x1.pkg, .slice A1 x1.imps.length a1, .slice A2 x1.msgs.length a2, .slice A3 x1.enums.length a3, .slice A4 x1.svcs.length a4]
  | 5, v => v = .agg #[.string x2.pkg, .slice D1 x2.imps.length d1, .slice D2 x2.msgs.length d2, .slice D3 x2.enums.length d3, .slice D4 x2.svcs.length d4]
  | 6, v => v = .bool true
  | 7, v => v = .bool true
  | 8, v => v = .bool true
  | 9, v => v = .agg #[.string x1.pkg, .slice A1 x1.imps.length a1, .slice A2 x1.msgs.length a2, .slice A3 x1.enums.length a3, .slice A4 x1.svcs.length a4]
  | 11, v => v = .agg #[.string x2.pkg, .slice D1 x2.imps.length d1, .slice D2 x2.msgs.length d2, .slice D3 x2.enums.length d3, .slice D4 x2.svcs.length d4]
  | 12, v => v = .bool true
  | 13, v => v = .bool true
  | 14, v => v = .bool true
  | _, _ => True
def tbP (x1 : Tr) (w5 : World) : Nat → (Nat → Value) → World → Prop
  | 10, d, W => ∃ (vs : Array Value) (G : List Nat) (B : Nat), d 10 = .agg vs ∧ MemL W B (Tr.dv Ty0 x1.bare) vs.toList G
  | 15, _, W => Kn w5 W
  | _, _, _ => True
set_option maxRecDepth 100000 in
set_option maxHeartbeats 4000000 in
theorem blanks_any (l ns : List Int) (A A' : Option Addr) (n c n' c' : Nat) (w : World) (hE : Env w) (hl : RdN w w.heap.size A n c l) (hns : RdN w w.heap.size A' n' c' ns) :
    Calls Tryz.prog 4 #[.slice A n c, .slice A' n' c'] w fun e w' => e = .returned (.bool true) ∧ Below w.heap.size w w' := by
  have HE := Lib.hid hE
  have HL := Lib.hid hl
  have HN := Lib.hid hns
  clear hE hl hns
  go_enter Tryz.func4, Tryz.ntmps4
  go_wp2_with fail
  refine (works_any _ HE.out).mono ?_
  rintro e w1 ⟨rfl, hb1⟩
  have HK1 := Lib.hid (Kn.of_below hb1)
  clear hb1
  go_wp2_with fail
  refine (spread_any l ns A A' n c n' c' w.heap.size w.heap.size _ (HL.out.kn HK1.out (Nat.le_refl _)) (HN.out.kn HK1.out (Nat.le_refl _)) HK1.out.size HK1.out.size).mono ?_
  rintro e w2 ⟨s1, s2, rfl, hs1, hs2, hk2⟩
  have hz1 := tx_size (fun _ => gap32_ok) (by omega) hs1
  have hz2 := tx_size (gapF_ok ns) (by omega) hs2
  obtain ⟨hsb, hsc⟩ := blanks_same (by omega) hs1 hs2
  have HK2 := Lib.hid (HK1.out.trans hk2)
  have HSB := Lib.hid hsb
  have HF1 := Lib.hid (parse_few s1)
  have HP1 := Lib.hid (fun (W : World) (hk : Kn w W) => parse_t s1 W (HE.out.below (Kp.to_below hk (fun k f => f.elim) (Nat.le_refl _))) (by omega))
  have HP2 := Lib.hid (fun (W : World) (hk : Kn w W) => parse_t s2 W (HE.out.below (Kp.to_below hk (fun k f => f.elim) (Nat.le_refl _))) (by omega))
  rw [← hsc] at HP2
  generalize resT (parseR s1) = x1 at *
  generalize resT (parseR s2) = x2 at *
  generalize resC (parseR s1) = cc at *
  clear hs1 hs2 hk2 hsb hsc
  go_wp2_with fail
  refine (HP1.out _ HK2.out).mono ?_
  rintro e w3 ⟨p1, vs1, F1, rfl, hm1, hb3⟩
  have HM1 := Lib.hid hm1
  have HK3 := Lib.hid (HK2.out.trans (Kn.of_below hb3))
  obtain ⟨A1, a1, G1, A2, a2, G2, A3, a3, G3, A4, a4, G4, hv1, -⟩ := Tr.q hm1
  obtain rfl : vs1 = #[.string x1.pkg, .slice A1 x1.imps.length a1, .slice A2 x1.msgs.length a2, .slice A3 x1.enums.length a3, .slice A4 x1.svcs.length a4] := by rw [← Array.toArray_toList (xs := vs1), hv1]
  have HB1 := Lib.hid (Blk.new w3 27 #[.string x1.pkg, .slice A1 x1.imps.length a1, .slice A2 x1.msgs.length a2, .slice A3 x1.enums.length a3, .slice A4 x1.svcs.length a4])
  have HK3' := Lib.hid (HK3.out.alloc (.cells #[.string x1.pkg, .slice A1 x1.imps.length a1, .slice A2 x1.msgs.length a2, .slice A3 x1.enums.length a3, .slice A4 x1.svcs.length a4] 27))
  have HM1' := Lib.hid (HM1.out.kn ((Kp.refl (fun _ => False) w3).alloc (.cells #[.string x1.pkg, .slice A1 x1.imps.length a1, .slice A2 x1.msgs.length a2, .slice A3 x1.enums.length a3, .slice A4 x1.svcs.length a4] 27)))
  clear hm1 hb3
  go_wp2_with fail
  refine (HP2.out _ HK3'.out).mono ?_
  rintro e w4 ⟨p2, vs2, F2, rfl, hm2, hb4⟩
  have HM2 := Lib.hid hm2
  have hk4 := Kn.of_below hb4
  have HK4 := Lib.hid (HK3'.out.trans hk4)
  obtain ⟨D1, d1, J1, D2, d2, J2, D3, d3, J3, D4, d4, J4, hv2, -⟩ := Tr.q hm2
  obtain rfl : vs2 = #[.string x2.pkg, .slice D1 x2.imps.length d1, .slice D2 x2.msgs.length d2, .slice D3 x2.enums.length d3, .slice D4 x2.svcs.length d4] := by rw [← Array.toArray_toList (xs := vs2), hv2]
  have HB1k := Lib.hid (HB1.out.kp hk4 (fun f => f))
  have HM1k := Lib.hid (HM1'.out.kn hk4)
  clear hm2 hb4 hk4
  go_wp2_with fail
  have HC1 := Lib.hid (HB1k.out.alloc (.cells #[.string x2.pkg, .slice D1 x2.imps.length d1, .slice D2 x2.msgs.length d2, .slice D3 x2.enums.length d3, .slice D4 x2.svcs.length d4] 27))
  have HC2 := Lib.hid (Blk.new w4 27 #[.string x2.pkg, .slice D1 x2.imps.length d1, .slice D2 x2.msgs.length d2, .slice D3 x2.enums.length d3, .slice D4 x2.svcs.length d4])
  have hal := (Kp.refl (fun _ => False) w4).alloc (.cells #[.string x2.pkg, .slice D1 x2.imps.length d1, .slice D2 x2.msgs.length d2, .slice D3 x2.enums.length d3, .slice D4 x2.svcs.length d4] 27)
  have HM1x := Lib.hid (HM1k.out.kn hal)
  have HM2x := Lib.hid (HM2.out.kn hal)
  have HK5 := Lib.hid (HK4.out.trans hal)
  have HE1 := Lib.hid ((Tr.eqB_iff x1 x2).2 HSB.out)
  have HE2 := Lib.hid ((Tr.eqB_iff x1.bare x2).2 (by rw [bare_bare, HSB.out]))
  clear hal
  generalize World.alloc w4 _ = w5 at *
  generalize w4.heap.size = b2 at *
  generalize w3.heap.size = b1 at *
  refine wp_region_flow (by kernel_rfl) 47 1 3 (fun i => match i with | 4 => [15, 3] | 5 => [15, 3] | 6 => [15, 3] | 9 => [15, 8] | 10 => [15, 8] | 11 => [15, 8] | 12 => [10, 15, 8] | _ => []) (fun _ => []) (fun _ => []) (fun i => ([33, 34, 35, 36, 37, 38, 39, 40, 41, 42, 43, 44, 45, 46, 4, 47] : List Nat).getD i 0) (by kernel_rfl) rfl [33, 34, 35, 36, 37, 38, 39, 40, 41, 42, 43, 44, 45, 46, 4, 47] (by kernel_rfl)
    (fun _ W W' => Kn W W') (tbV x1 x2 cc A1 A2 A3 A4 D1 D2 D3 D4 a1 a2 a3 a4 d1 d2 d3 d4) (tbP x1 w5) ?cong ?st ?t0 ?op ?skip ?done
  case cong =>
    intro i d d' W hi hj h
    have hi : i < 16 := hi
    by_cases i10 : i = 10
    · subst i10
      have e10 := hj 10 (.inl rfl)
      simp only [tbP] at h ⊢
      rw [← e10]
      exact h
    obtain rfl | rfl | rfl | rfl | rfl | rfl | rfl | rfl | rfl | rfl | rfl | rfl | rfl | rfl | rfl : i = 0 ∨ i = 1 ∨ i = 2 ∨ i = 3 ∨ i = 4 ∨ i = 5 ∨ i = 6 ∨ i = 7 ∨ i = 8 ∨ i = 9 ∨ i = 11 ∨ i = 12 ∨ i = 13 ∨ i = 14 ∨ i = 15 := by omega
    all_goals exact h
  case st =>
    intro i j d W W' hi hj hij hsp hr h hF
    have hj : j < 16 := hj
    by_cases j10 : j = 10
    · subst j10
      obtain ⟨vs, G, B, h1, h2⟩ := h
      exact ⟨vs, G, B, h1, h2.kn hF⟩
    by_cases j15 : j = 15
    · subst j15; exact Kp.trans h hF
    obtain rfl | rfl | rfl | rfl | rfl | rfl | rfl | rfl | rfl | rfl | rfl | rfl | rfl | rfl : j = 0 ∨ j = 1 ∨ j = 2 ∨ j = 3 ∨ j = 4 ∨ j = 5 ∨ j = 6 ∨ j = 7 ∨ j = 8 ∨ j = 9 ∨ j = 11 ∨ j = 12 ∨ j = 13 ∨ j = 14 := by omega
    all_goals trivial
  case t0 =>
    intro j d hj
    obtain rfl : j = 0 := by omega
    exact Kp.drew (Kp.refl _ _)
  case op =>
    intro i o ho u W hdep hV _ hg K hK
    simp only [over, List.foldl_cons, List.foldl_nil, List.setIfInBounds_toArray, List.set_cons_zero, List.set_cons_succ, List.set_nil, List.getD_cons_zero, List.getD_cons_succ, Array.getD_eq_getD_getElem?, List.getElem?_toArray] at hK hdep hV ⊢
    match i, ho with
    | 0, ho =>
      simp only [List.getElem?_toArray, List.getElem?_cons_zero, List.getElem?_cons_succ, Option.some.injEq] at ho
      subst ho
      clear hg
      go_wp2
      exact hK _ _ rfl trivial (Kp.refl _ _)
    | 1, ho =>
      simp only [List.getElem?_toArray, List.getElem?_cons_zero, List.getElem?_cons_succ, Option.some.injEq] at ho
      subst ho
      clear hg
      go_wp2
      exact hK _ _ rfl trivial (Kp.refl _ _)
    | 2, ho =>
      simp only [List.getElem?_toArray, List.getElem?_cons_zero, List.getElem?_cons_succ, Option.some.injEq] at ho
      subst ho
      clear hg
      have v0 := hV 0 (by kernel_rfl)
      simp only [List.getD_cons_zero, List.getD_cons_succ, tbV] at v0
      have v1 := hV 1 (by kernel_rfl)
      simp only [List.getD_cons_zero, List.getD_cons_succ, tbV] at v1
      simp only [v0, v1] at hK ⊢
      go_wp2
      exact hK _ _ rfl trivial (Kp.refl _ _)
    | 3, ho =>
      simp only [List.getElem?_toArray, List.getElem?_cons_zero, List.getElem?_cons_succ, Option.some.injEq] at ho
      subst ho
      clear hg
      have v2 := hV 2 (by kernel_rfl)
      simp only [List.getD_cons_zero, List.getD_cons_succ, tbV] at v2
      simp only [v2] at hK ⊢
      go_wp2
      exact hK _ _ rfl trivial (Kp.refl _ _)
    | 4, ho =>
      simp only [List.getElem?_toArray, List.getElem?_cons_zero, List.getElem?_cons_succ, Option.some.injEq] at ho
      subst ho
      clear hg
      have hk : Kn w5 W := hdep 15 (by simp)
      obtain ⟨⟨k0, k1, k2, k3, k4⟩, -⟩ := (HC1.out.kp hk (fun f => f)).five_
      go_wp2
      exact hK _ _ rfl trivial (Kp.refl _ _)
    | 5, ho =>
      simp only [List.getElem?_toArray, List.getElem?_cons_zero, List.getElem?_cons_succ, Option.some.injEq] at ho
      subst ho
      clear hg
      have hk : Kn w5 W := hdep 15 (by simp)
      obtain ⟨⟨k0, k1, k2, k3, k4⟩, -⟩ := (HC2.out.kp hk (fun f => f)).five_
      go_wp2
      exact hK _ _ rfl trivial (Kp.refl _ _)
    | 6, ho =>
      simp only [List.getElem?_toArray, List.getElem?_cons_zero, List.getElem?_cons_succ, Option.some.injEq] at ho
      subst ho
      clear hg
      have v4 := hV 4 (by kernel_rfl)
      simp only [List.getD_cons_zero, List.getD_cons_succ, tbV] at v4
      have v5 := hV 5 (by kernel_rfl)
      simp only [List.getD_cons_zero, List.getD_cons_succ, tbV] at v5
      have hk : Kn w5 W := hdep 15 (by simp)
      simp only [v4, v5] at hK ⊢
      go_wp2_with fail
      refine (same_any (HM1x.out.kn hk) (HM2x.out.kn hk)).mono ?_
      rintro e w6 ⟨rfl, hk2⟩
      rw [HE1.out]
      exact hK _ _ rfl trivial hk2
    | 7, ho =>
      simp only [List.getElem?_toArray, List.getElem?_cons_zero, List.getElem?_cons_succ, Option.some.injEq] at ho
      subst ho
      clear hg
      have v3 := hV 3 (by kernel_rfl)
      simp only [List.getD_cons_zero, List.getD_cons_succ, tbV] at v3
      have v6 := hV 6 (by kernel_rfl)
      simp only [List.getD_cons_zero, List.getD_cons_succ, tbV] at v6
      simp only [v3, v6] at hK ⊢
      go_wp2
      exact hK _ _ rfl trivial (Kp.refl _ _)
    | 8, ho =>
      simp only [List.getElem?_toArray, List.getElem?_cons_zero, List.getElem?_cons_succ, Option.some.injEq] at ho
      subst ho
      clear hg
      have v7 := hV 7 (by kernel_rfl)
      simp only [List.getD_cons_zero, List.getD_cons_succ, tbV] at v7
      simp only [v7] at hK ⊢
      go_wp2
      exact hK _ _ rfl trivial (Kp.refl _ _)
    | 9, ho =>
      simp only [List.getElem?_toArray, List.getElem?_cons_zero, List.getElem?_cons_succ, Option.some.injEq] at ho
      subst ho
      clear hg
      have hk : Kn w5 W := hdep 15 (by simp)
      obtain ⟨⟨k0, k1, k2, k3, k4⟩, -⟩ := (HC1.out.kp hk (fun f => f)).five_
      go_wp2
      exact hK _ _ rfl trivial (Kp.refl _ _)
    | 10, ho =>
      simp only [List.getElem?_toArray, List.getElem?_cons_zero, List.getElem?_cons_succ, Option.some.injEq] at ho
      subst ho
      clear hg
      have v9 := hV 9 (by kernel_rfl)
      simp only [List.getD_cons_zero, List.getD_cons_succ, tbV] at v9
      have hk : Kn w5 W := hdep 15 (by simp)
      simp only [v9] at hK ⊢
      go_wp2_with fail
      refine (bare_any (HM1x.out.kn hk) HF1.out).mono ?_
      rintro e w6 ⟨vs, G, rfl, hm, hk2⟩
      exact hK _ _ trivial ⟨vs, G, _, rfl, hm⟩ hk2
    | 11, ho =>
      simp only [List.getElem?_toArray, List.getElem?_cons_zero, List.getElem?_cons_succ, Option.some.injEq] at ho
      subst ho
      clear hg
      have hk : Kn w5 W := hdep 15 (by simp)
      obtain ⟨⟨k0, k1, k2, k3, k4⟩, -⟩ := (HC2.out.kp hk (fun f => f)).five_
      go_wp2
      exact hK _ _ rfl trivial (Kp.refl _ _)
    | 12, ho =>
      simp only [List.getElem?_toArray, List.getElem?_cons_zero, List.getElem?_cons_succ, Option.some.injEq] at ho
      subst ho
      clear hg
      have v11 := hV 11 (by kernel_rfl)
      simp only [List.getD_cons_zero, List.getD_cons_succ, tbV] at v11
      have hk : Kn w5 W := hdep 15 (by simp)
      obtain ⟨vs, G, B, hv, hm⟩ := hdep 10 (by simp)
      replace hv : u 43 = .agg vs := hv
      have hcb := same_any hm (HM2x.out.kn hk)
      rw [Array.toArray_toList] at hcb
      simp only [v11] at hK ⊢
      simp only [hv] at hK ⊢
      go_wp2_with fail
      refine hcb.mono ?_
      rintro e w6 ⟨rfl, hk2⟩
      rw [HE2.out]
      exact hK _ _ rfl trivial hk2
    | 13, ho =>
      simp only [List.getElem?_toArray, List.getElem?_cons_zero, List.getElem?_cons_succ, Option.some.injEq] at ho
      subst ho
      clear hg
      have v8 := hV 8 (by kernel_rfl)
      simp only [List.getD_cons_zero, List.getD_cons_succ, tbV] at v8
      have v12 := hV 12 (by kernel_rfl)
      simp only [List.getD_cons_zero, List.getD_cons_succ, tbV] at v12
      simp only [v8, v12] at hK ⊢
      go_wp2
      exact hK _ _ rfl trivial (Kp.refl _ _)
    | 14, ho =>
      simp only [List.getElem?_toArray, List.getElem?_cons_zero, List.getElem?_cons_succ, Option.some.injEq] at ho
      subst ho
      clear hg
      have v13 := hV 13 (by kernel_rfl)
      simp only [List.getD_cons_zero, List.getD_cons_succ, tbV] at v13
      simp only [v13] at hK ⊢
      go_wp2
      exact hK _ _ rfl trivial (Kp.refl _ _)
    | k + 15, ho => simp at ho
  case skip =>
    intro i o g b ho hg u W hdep hV hne
    exfalso
    match i, ho with
    | 0, ho =>
      simp only [List.getElem?_toArray, List.getElem?_cons_zero, List.getElem?_cons_succ, Option.some.injEq] at ho
      subst ho
      cases hg
    | 1, ho =>
      simp only [List.getElem?_toArray, List.getElem?_cons_zero, List.getElem?_cons_succ, Option.some.injEq] at ho
      subst ho
      cases hg
    | 2, ho =>
      simp only [List.getElem?_toArray, List.getElem?_cons_zero, List.getElem?_cons_succ, Option.some.injEq] at ho
      subst ho
      cases hg
    | 3, ho =>
      simp only [List.getElem?_toArray, List.getElem?_cons_zero, List.getElem?_cons_succ, Option.some.injEq] at ho
      subst ho
      cases hg
    | 4, ho =>
      simp only [List.getElem?_toArray, List.getElem?_cons_zero, List.getElem?_cons_succ, Option.some.injEq] at ho
      subst ho
      simp only [Option.some.injEq, Prod.mk.injEq] at hg
      obtain ⟨rfl, rfl⟩ := hg
      have v3 := hV 3 (by kernel_rfl)
      exact hne (by rw [show u _ = .bool true from v3]; rfl)
    | 5, ho =>
      simp only [List.getElem?_toArray, List.getElem?_cons_zero, List.getElem?_cons_succ, Option.some.injEq] at ho
      subst ho
      simp only [Option.some.injEq, Prod.mk.injEq] at hg
      obtain ⟨rfl, rfl⟩ := hg
      have v3 := hV 3 (by kernel_rfl)
      exact hne (by rw [show u _ = .bool true from v3]; rfl)
    | 6, ho =>
      simp only [List.getElem?_toArray, List.getElem?_cons_zero, List.getElem?_cons_succ, Option.some.injEq] at ho
      subst ho
      simp only [Option.some.injEq, Prod.mk.injEq] at hg
      obtain ⟨rfl, rfl⟩ := hg
      have v3 := hV 3 (by kernel_rfl)
      exact hne (by rw [show u _ = .bool true from v3]; rfl)
    | 7, ho =>
      simp only [List.getElem?_toArray, List.getElem?_cons_zero, List.getElem?_cons_succ, Option.some.injEq] at ho
      subst ho
      cases hg
    | 8, ho =>
      simp only [List.getElem?_toArray, List.getElem?_cons_zero, List.getElem?_cons_succ, Option.some.injEq] at ho
      subst ho
      cases hg
    | 9, ho =>
      simp only [List.getElem?_toArray, List.getElem?_cons_zero, List.getElem?_cons_succ, Option.some.injEq] at ho
      subst ho
      simp only [Option.some.injEq, Prod.mk.injEq] at hg
      obtain ⟨rfl, rfl⟩ := hg
      have v8 := hV 8 (by kernel_rfl)
      exact hne (by rw [show u _ = .bool true from v8]; rfl)
    | 10, ho =>
      simp only [List.getElem?_toArray, List.getElem?_cons_zero, List.getElem?_cons_succ, Option.some.injEq] at ho
      subst ho
      simp only [Option.some.injEq, Prod.mk.injEq] at hg
      obtain ⟨rfl, rfl⟩ := hg
      have v8 := hV 8 (by kernel_rfl)
      exact hne (by rw [show u _ = .bool true from v8]; rfl)
    | 11, ho =>
      simp only [List.getElem?_toArray, List.getElem?_cons_zero, List.getElem?_cons_succ, Option.some.injEq] at ho
      subst ho
      simp only [Option.some.injEq, Prod.mk.injEq] at hg
      obtain ⟨rfl, rfl⟩ := hg
      have v8 := hV 8 (by kernel_rfl)
      exact hne (by rw [show u _ = .bool true from v8]; rfl)
    | 12, ho =>
      simp only [List.getElem?_toArray, List.getElem?_cons_zero, List.getElem?_cons_succ, Option.some.injEq] at ho
      subst ho
      simp only [Option.some.injEq, Prod.mk.injEq] at hg
      obtain ⟨rfl, rfl⟩ := hg
      have v8 := hV 8 (by kernel_rfl)
      exact hne (by rw [show u _ = .bool true from v8]; rfl)
    | 13, ho =>
      simp only [List.getElem?_toArray, List.getElem?_cons_zero, List.getElem?_cons_succ, Option.some.injEq] at ho
      subst ho
      cases hg
    | 14, ho =>
      simp only [List.getElem?_toArray, List.getElem?_cons_zero, List.getElem?_cons_succ, Option.some.injEq] at ho
      subst ho
      cases hg
    | k + 15, ho => simp at ho
  case done =>
    intro u W hV hP
    have hk : Kn w5 W := hP 15 (by decide) (by decide)
    have v14 := hV 14 (by decide)
    simp only [over, List.foldl_cons, List.foldl_nil, List.setIfInBounds_toArray, List.set_cons_zero, List.set_cons_succ, List.set_nil, List.getD_cons_zero, List.getD_cons_succ, Array.getD_eq_getD_getElem?, List.getElem?_toArray]
    simp only [List.getD_cons_zero, List.getD_cons_succ, tbV] at v14
    clear hV hP
    rw [v14]
    go_wp2_with fail
    refine bodyPost_ret (v := .bool true) (by simp [results, Tryz.results4, go_sem]) rfl ⟨rfl, Kp.to_below (HK5.out.trans hk) (fun k f => f.elim) (Nat.le_refl _)⟩
end Go.Proofs.YthmdaejlopjjoaaGreatDoor
