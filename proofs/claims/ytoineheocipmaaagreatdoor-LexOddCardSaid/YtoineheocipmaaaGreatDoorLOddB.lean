/-
  LexOdd, walked: some of the odd ones.
-/
import Derived.Test.YtoineheocipmaaaGreatDoorLBack
import Derived.Test.YtoineheocipmaaaGreatDoorLexOM
import Derived.Deep.RegionWith
namespace Go.Proofs.YtoineheocipmaaaGreatDoor
open Go.RowKit
set_option linter.unusedVariables false
set_option linter.unusedSimpArgs false

theorem kd_rest (N : Nat) (hN : N < 28) (hX : ¬ (N = 23 ∨ N = 24 ∨ N = 25)) : (N = 26 ∧ kdN N = 2) ∨ N = 27 ∨ ((N ≠ 23 ∧ N ≠ 24 ∧ N ≠ 25 ∧ N ≠ 26 ∧ N < 27) ∧ kdN N = 0) := by
  unfold kdN
  by_cases h4 : N = 26
  · exact .inl ⟨h4, by rw [if_pos (by omega)]⟩
  by_cases h5 : N = 27
  · exact .inr (.inl h5)
  have h1 : ¬ (N = 25 ∨ N = 26) := by omega
  have h2 : ¬ (N = 23 ∨ N = 24) := by omega
  refine .inr (.inr ⟨⟨by omega, by omega, by omega, h4, by omega⟩, ?_⟩)
  rw [if_neg h1, if_neg h2]
set_option maxRecDepth 100000 in
set_option maxHeartbeats 8000000 in
theorem oddB_any (l : List Sd) (v : Value) (at_ which : Int) (w : World) (hE : Env w) (hv : RdS w w.heap.size v l) (hX : ¬ (brg which 28 = 23 ∨ brg which 28 = 24 ∨ brg which 28 = 25)) :
    Calls Tryz.prog 6 #[v, .int .i64 at_, .int .i64 which] w fun e w' => e = .returned (.bool true) ∧ Below w.heap.size w w' := by
  obtain ⟨A, c, rfl, hlc, hcm, _⟩ := id hv
  obtain ⟨mm, hmm, hm1⟩ : ∃ mm : Nat, min (l.length : Int) 40 = (mm : Int) ∧ mm ≤ l.length := ⟨min l.length 40, by omega, by omega⟩
  have hmc : (mm : Int) ≤ (c : Int) := by omega
  have hrow := row_any (l.take mm) w.heap.size (.slice A mm c) w (hv.pre mm hm1) (Nat.le_refl _)
  have hok := rowS_ok (l.take mm)
  have hlen := rowS_len (l.take mm)
  generalize rowS (l.take mm) = L at *
  have cK : ∀ W, Calls Tryz.prog 19 #[.int .i64 at_, .int .i64 ((L.length : Int) + 1)] W fun e w' => e = .returned (.int .i64 (brg at_ (L.length + 1) : Nat)) ∧ W = w' := fun W => bring_any at_ (L.length + 1) W (by omega) (by omega)
  have hK := brg_lt at_ (L.length + 1) (by omega)
  generalize brg at_ (L.length + 1) = K at *
  have cN : ∀ W, Calls Tryz.prog 19 #[.int .i64 which, .int .i64 28] W fun e w' => e = .returned (.int .i64 (brg which 28 : Nat)) ∧ W = w' := fun W => bring_any which 28 W (by omega) (by omega)
  have hN := brg_lt which 28 (by omega)
  generalize brg which 28 = N at *
  have HE := Lib.hid hE
  have HROW := Lib.hid hrow
  have HOK := Lib.hid hok
  have CK := Lib.hid cK
  have CN := Lib.hid cN
  clear hE hv hrow hok cK cN
  go_enter Tryz.func6, Tryz.ntmps6
  go_wp2_with fail
  refine (HROW.out).mono ?_
  rintro e w2 ⟨u, rfl, ho2, hb2⟩
  have HRD2 := Lib.hid ho2.rd
  have HB2 := Lib.hid hb2
  obtain ⟨A2, c2, rfl, hlc2, hcm2, _⟩ := ho2.rd
  have HOW := Lib.hid ho2
  have hst : OdR w L w2.heap.size (.slice A2 L.length c2) w2.heap.size ((w2.alloc (.cells oddV 9)).alloc (.cells wantV 23)) := by
    obtain ⟨t1, t2, t3⟩ := two_any w2 9 23 oddV wantV
    exact ⟨HRD2.out.below t3 (Nat.le_refl _), t1, t2, HB2.out.trans (t3.mono HB2.out.size), t3.size⟩
  have HST := Lib.hid hst
  clear ho2 hb2 hst
  go_wp2_with fail
  refine (CK.out _).mono ?_
  rintro e _ ⟨rfl, rfl⟩
  go_upto_region 5 with fail
  obtain ⟨W3, hW3⟩ : ∃ W3, W3 = (w2.alloc (.cells #[.string ⟨#[35]⟩, .string ⟨#[47]⟩, .string ⟨#[42]⟩, .string ⟨#[43]⟩, .string ⟨#[63]⟩, .string ⟨#[64]⟩, .string ⟨#[36]⟩, .string ⟨#[92]⟩, .string ⟨#[0]⟩, .string ⟨#[127]⟩, .string ⟨#[255]⟩, .string ⟨#[58]⟩, .string ⟨#[33]⟩, .string ⟨#[37]⟩, .string ⟨#[38]⟩, .string ⟨#[124]⟩, .string ⟨#[94]⟩, .string ⟨#[126]⟩, .string ⟨#[48, 57]⟩, .string ⟨#[48, 120]⟩, .string ⟨#[48, 120, 103]⟩, .string ⟨#[55, 97]⟩, .string ⟨#[97, 98, 99, 100, 101, 102, 103, 104, 105, 106, 107, 108, 109, 110, 111, 112, 113, 114, 115, 116, 117, 118, 119, 120, 121, 122, 97, 98, 99, 100, 101, 102, 103]⟩, .string ⟨#[50, 49, 52, 55, 52, 56, 51, 54, 52, 57]⟩, .string ⟨#[48, 50, 48, 48, 48, 48, 48, 48, 48, 48, 48, 49]⟩, .string ⟨#[39, 97]⟩, .string ⟨#[34, 92, 113, 34]⟩, .string ⟨#[47, 42, 32, 97]⟩] 9)).alloc (.cells #[.int .i64 30, .int .i64 9, .int .i64 21] 23) := ⟨_, rfl⟩
  rw [← hW3]
  have HR := Lib.hid (show OdR w L w2.heap.size (.slice A2 L.length c2) w2.heap.size W3 from by rw [hW3]; exact HST.out)
  clear hW3 HST
  go_wp2_with fail
  refine (CN.out _).mono ?_
  rintro e _ ⟨rfl, rfl⟩
  obtain ⟨hwt, hk3⟩ := want_at N
  generalize hE0 : oddE N = E0 at *
  have hcs := kd_rest N hN hX
  clear hX
  rcases hcs with ⟨h5, hk⟩ | h5 | ⟨⟨h1, h2, h3, h4, h27⟩, hk⟩
  · subst h5
    rw [hk] at hwt
    clear hk hk3
    have hj1 := fun W (h : OdR w L w2.heap.size (.slice A2 L.length c2) w2.heap.size W) => join_any (L.take K) w2.heap.size (.slice A2 K c2) W (h.rd.pre K (by omega)) h.le (by simp; omega) (fun x hx => by have := (HOK.out x (List.take_subset _ _ hx)).few; omega)
    unfold StrP at hj1
    obtain ⟨S1, hS1⟩ : ∃ S1 : ByteArray, S1 = ⟨(jL (L.take K)).toArray⟩ := ⟨_, rfl⟩
    rw [← hS1] at hj1
    have HJ1 := Lib.hid hj1
    have HS1 := Lib.hid hS1
    have hKc : (K : Int) ≤ (c2 : Int) := by omega
    clear hj1 hS1
    go_wp2_with fail
    refine (HJ1.out _ HR.out).mono ?_
    rintro e w5 ⟨rfl, hb5⟩
    have HR5 := Lib.hid (HR.out.below hb5)
    clear hb5
    go_upto_region 12 with fail
    obtain ⟨O, hO⟩ : ∃ O : ByteArray, O = ⟨(oddM.getD 26 []).toArray⟩ := ⟨_, rfl⟩
    have hOc : ∀ W, OdR w L w2.heap.size (.slice A2 L.length c2) w2.heap.size W → W.cell? ⟨w2.heap.size, 26, none⟩ = some (.string O) := fun W h => by rw [hO]; exact (h.odd.cell 26).trans (oddV_at 26 hN)
    have HOC := Lib.hid hOc
    have hj2 := fun W v' (h : OdR w L w2.heap.size (.slice A2 L.length c2) w2.heap.size W) (h2 : RdI W w2.heap.size v' (L.drop K)) => join_any (L.drop K) w2.heap.size v' W h2 h.le (by simp; omega) (fun x hx => by have := (HOK.out x (List.drop_subset _ _ hx)).few; omega)
    unfold StrP at hj2
    obtain ⟨S2, hS2⟩ : ∃ S2 : ByteArray, S2 = ⟨(jL (L.drop K)).toArray⟩ := ⟨_, rfl⟩
    rw [← hS2] at hj2
    have HJ2 := Lib.hid hj2
    have hl1 := jL_few (L.take K) (fun x hx => HOK.out x (List.take_subset _ _ hx))
    have hl2 := jL_few (L.drop K) (fun x hx => HOK.out x (List.drop_subset _ _ hx))
    have hl3 : (L.take K).length = K := by simp; omega
    have hl4 : (L.drop K).length = L.length - K := by simp
    have hO2 : O.size ≤ 40 := by rw [hO]; exact odd_len 26 hN
    have hs1 : S1.size ≤ 13000 := by rw [HS1.out]; show (jL (L.take K)).length ≤ _; omega
    have hs2 : S2.size ≤ 13000 := by rw [hS2]; show (jL (L.drop K)).length ≤ _; omega
    obtain ⟨U1, a1, u1⟩ := str_add S1 ⟨#[10]⟩ (by show S1.size + 1 ≤ _; omega)
    have z1 : U1.size = S1.size + 1 := by have := congrArg List.length u1; simpa using this
    obtain ⟨U2, a2, u2⟩ := str_add U1 O (by omega)
    have z2 : U2.size = U1.size + O.size := by have := congrArg List.length u2; simpa using this
    obtain ⟨U3, a3, u3⟩ := str_add U2 ⟨#[10]⟩ (by show U2.size + 1 ≤ _; omega)
    have z3 : U3.size = U2.size + 1 := by have := congrArg List.length u3; simpa using this
    obtain ⟨T, a4, u4⟩ := str_add U3 S2 (by omega)
    have z4 : T.size = U3.size + S2.size := by have := congrArg List.length u4; simpa using this
    have hT : T.data.toList = jL (L.take K) ++ 10 :: (oddM.getD 26 [] ++ 10 :: jL (L.drop K)) := by rw [u4, u3, u2, u1, HS1.out, hO, hS2]; simp
    have HT := Lib.hid hT
    clear hOc hj2 hS2 hl1 hl2 hl3 hl4 u1 u2 u3 u4 hT hO
    go_cut [14] (fun v wx => v = .string T ∧ OdR w L w2.heap.size (.slice A2 L.length c2) w2.heap.size wx)
    case first =>
      rcases HOW.out.2 with ⟨e, h0⟩ | ⟨g, cap, cur, e, hbg, _⟩
      · simp only [Value.slice.injEq] at e
        obtain ⟨rfl, hL0, rfl⟩ := e
        obtain rfl : L = [] := List.eq_nil_of_length_eq_zero hL0
        obtain rfl : K = 0 := by simp at hK; omega
        have hj : ∀ W, OdR w [] w2.heap.size (.slice none 0 0) w2.heap.size W → Calls Tryz.prog 18 #[.slice none 0 0] W fun e w' => e = .returned (.string S2) ∧ Below W.heap.size W w' := fun W h => HJ2.out W _ h (RdI.none_ _ _ _ _ (by unfold maxLen; omega))
        have HJ := Lib.hid hj
        clear hj
        have hoc := HOC.out _ HR5.out
        go_region_with ((go_at_call 18; refine (HJ.out _ HR5.out.drew).mono ?_; rintro e w6 ⟨rfl, hb6⟩; have HR6 := Lib.hid (HR5.out.drew.below hb6); have hoc6 := HOC.out _ HR6.out; clear hb6))
        all_goals
          go_wp2_with fail
          go_meet
          exact ⟨rfl, HR6.out⟩
      · simp only [Value.slice.injEq, true_and] at e
        obtain ⟨rfl, rfl⟩ := e
        by_cases hck : c2 - K = 0
        · obtain rfl : K = L.length := by omega
          obtain rfl : c2 = L.length := by omega
          have hj : ∀ W A, OdR w L w2.heap.size (.slice (some ⟨g, 0, none⟩) L.length L.length) w2.heap.size W → Calls Tryz.prog 18 #[.slice A 0 0] W fun e w' => e = .returned (.string S2) ∧ Below W.heap.size W w' := fun W A h => HJ2.out W _ h (by
            rw [List.drop_length]
            exact RdI.none_ _ _ _ _ (by unfold maxLen; omega))
          have HJ := Lib.hid hj
          clear hj
          have hoc := HOC.out _ HR5.out
          go_region_with ((go_at_call 18; refine (HJ.out _ _ HR5.out.drew).mono ?_; rintro e w6 ⟨rfl, hb6⟩; have HR6 := Lib.hid (HR5.out.drew.below hb6); have hoc6 := HOC.out _ HR6.out; clear hb6))
          all_goals
            go_wp2_with fail
            go_meet
            exact ⟨rfl, HR6.out⟩
        · have hj : ∀ W, OdR w L w2.heap.size (.slice (some ⟨g, 0, none⟩) L.length c2) w2.heap.size W → Calls Tryz.prog 18 #[.slice (some ⟨g, K * 4, none⟩) (L.length - K) (c2 - K)] W fun e w' => e = .returned (.string S2) ∧ Below W.heap.size W w' := fun W h => HJ2.out W _ h (by
            have := h.rd.sub K L.length (by omega) (Nat.le_refl _) (c2 - K) (by omega) (by omega)
            rw [List.take_length, Nat.zero_add] at this
            exact this)
          have HJ := Lib.hid hj
          clear hj
          have hoc := HOC.out _ HR5.out
          go_region_with ((go_at_call 18; refine (HJ.out _ HR5.out.drew).mono ?_; rintro e w6 ⟨rfl, hb6⟩; have HR6 := Lib.hid (HR5.out.drew.below hb6); have hoc6 := HOC.out _ HR6.out; clear hb6))
          all_goals
            go_wp2_with fail
            go_meet
            exact ⟨rfl, HR6.out⟩
    case rest =>
      obtain ⟨rfl, hr6⟩ := hcut
      have HR6 := Lib.hid hr6
      have hTl : T.size ≤ 65536 := by omega
      have hw := odd_words 26 (by omega) (fun x hx => HOK.out x (List.take_subset _ _ hx)) hTl HT.out
      rw [hE0] at hw
      have hsl : S1.size = (jL (L.take K)).length := by rw [HS1.out]; rfl
      rw [← hsl] at hw
      have hwords := fun W (h : Env W) => words_any T W h (by omega)
      simp only [hw] at hwords
      unfold WsP at hwords
      have HW := Lib.hid hwords
      have hwc := hr6.want.cell 2
      rw [hwt] at hwc
      have HWT := Lib.hid hwt
      clear hr6 hw hsl hwords hwc hwt
      go_wp2_with fail
      refine (HW.out _ (HE.out.below HR6.out.bel)).mono ?_
      rintro e w7 ⟨v7, rfl, ho7, hb7⟩
      have HR7 := Lib.hid (HR6.out.below hb7)
      have hwc := HR7.out.want.cell 2
      rw [HWT.out] at hwc
      obtain ⟨A7, c7, rfl, _, _, _⟩ := ho7.val
      have e1 : (([] : List Wd).length : Int) = 0 := rfl
      have e2 : ((S1.size + 1 : Nat) : Int) = (S1.size : Int) + 1 := by omega
      clear ho7 hb7
      go_wp2_with fail
      refine (lexWorks_any _ (HE.out.below HR7.out.bel)).mono ?_
      rintro e w9 ⟨rfl, hb9⟩
      have HB9 := Lib.hid (HR7.out.bel.trans (hb9.mono HR7.out.bel.size))
      clear hb9
      go_wp2_with fail
      go_ret
      exact ⟨rfl, HB9.out⟩
  · subst h5
    clear hwt hk3 hE0
    have hj1 := fun W (h : OdR w L w2.heap.size (.slice A2 L.length c2) w2.heap.size W) => join_any (L.take K) w2.heap.size (.slice A2 K c2) W (h.rd.pre K (by omega)) h.le (by simp; omega) (fun x hx => by have := (HOK.out x (List.take_subset _ _ hx)).few; omega)
    unfold StrP at hj1
    obtain ⟨S1, hS1⟩ : ∃ S1 : ByteArray, S1 = ⟨(jL (L.take K)).toArray⟩ := ⟨_, rfl⟩
    rw [← hS1] at hj1
    have HJ1 := Lib.hid hj1
    have HS1 := Lib.hid hS1
    have hKc : (K : Int) ≤ (c2 : Int) := by omega
    clear hj1 hS1
    go_wp2_with fail
    refine (HJ1.out _ HR.out).mono ?_
    rintro e w5 ⟨rfl, hb5⟩
    have HR5 := Lib.hid (HR.out.below hb5)
    clear hb5
    go_upto_region 12 with fail
    obtain ⟨O, hO⟩ : ∃ O : ByteArray, O = ⟨(oddM.getD 27 []).toArray⟩ := ⟨_, rfl⟩
    have hOc : ∀ W, OdR w L w2.heap.size (.slice A2 L.length c2) w2.heap.size W → W.cell? ⟨w2.heap.size, 27, none⟩ = some (.string O) := fun W h => by rw [hO]; exact (h.odd.cell 27).trans (oddV_at 27 hN)
    have HOC := Lib.hid hOc
    have hj2 := fun W v' (h : OdR w L w2.heap.size (.slice A2 L.length c2) w2.heap.size W) (h2 : RdI W w2.heap.size v' (L.drop K)) => join_any (L.drop K) w2.heap.size v' W h2 h.le (by simp; omega) (fun x hx => by have := (HOK.out x (List.drop_subset _ _ hx)).few; omega)
    unfold StrP at hj2
    obtain ⟨S2, hS2⟩ : ∃ S2 : ByteArray, S2 = ⟨(jL (L.drop K)).toArray⟩ := ⟨_, rfl⟩
    rw [← hS2] at hj2
    have HJ2 := Lib.hid hj2
    have hl1 := jL_few (L.take K) (fun x hx => HOK.out x (List.take_subset _ _ hx))
    have hl2 := jL_few (L.drop K) (fun x hx => HOK.out x (List.drop_subset _ _ hx))
    have hl3 : (L.take K).length = K := by simp; omega
    have hl4 : (L.drop K).length = L.length - K := by simp
    have hO2 : O.size ≤ 40 := by rw [hO]; exact odd_len 27 hN
    have hs1 : S1.size ≤ 13000 := by rw [HS1.out]; show (jL (L.take K)).length ≤ _; omega
    have hs2 : S2.size ≤ 13000 := by rw [hS2]; show (jL (L.drop K)).length ≤ _; omega
    obtain ⟨U1, a1, u1⟩ := str_add S1 ⟨#[10]⟩ (by show S1.size + 1 ≤ _; omega)
    have z1 : U1.size = S1.size + 1 := by have := congrArg List.length u1; simpa using this
    obtain ⟨U2, a2, u2⟩ := str_add U1 O (by omega)
    have z2 : U2.size = U1.size + O.size := by have := congrArg List.length u2; simpa using this
    obtain ⟨U3, a3, u3⟩ := str_add U2 ⟨#[10]⟩ (by show U2.size + 1 ≤ _; omega)
    have z3 : U3.size = U2.size + 1 := by have := congrArg List.length u3; simpa using this
    obtain ⟨T, a4, u4⟩ := str_add U3 S2 (by omega)
    have z4 : T.size = U3.size + S2.size := by have := congrArg List.length u4; simpa using this
    have hT : T.data.toList = jL (L.take K) ++ 10 :: (oddM.getD 27 [] ++ 10 :: jL (L.drop K)) := by rw [u4, u3, u2, u1, HS1.out, hO, hS2]; simp
    have HT := Lib.hid hT
    clear hOc hj2 hS2 hl1 hl2 hl3 hl4 u1 u2 u3 u4 hT hO
    go_cut [14] (fun v wx => v = .string T ∧ OdR w L w2.heap.size (.slice A2 L.length c2) w2.heap.size wx)
    case first =>
      rcases HOW.out.2 with ⟨e, h0⟩ | ⟨g, cap, cur, e, hbg, _⟩
      · simp only [Value.slice.injEq] at e
        obtain ⟨rfl, hL0, rfl⟩ := e
        obtain rfl : L = [] := List.eq_nil_of_length_eq_zero hL0
        obtain rfl : K = 0 := by simp at hK; omega
        have hj : ∀ W, OdR w [] w2.heap.size (.slice none 0 0) w2.heap.size W → Calls Tryz.prog 18 #[.slice none 0 0] W fun e w' => e = .returned (.string S2) ∧ Below W.heap.size W w' := fun W h => HJ2.out W _ h (RdI.none_ _ _ _ _ (by unfold maxLen; omega))
        have HJ := Lib.hid hj
        clear hj
        have hoc := HOC.out _ HR5.out
        go_region_with ((go_at_call 18; refine (HJ.out _ HR5.out.drew).mono ?_; rintro e w6 ⟨rfl, hb6⟩; have HR6 := Lib.hid (HR5.out.drew.below hb6); have hoc6 := HOC.out _ HR6.out; clear hb6))
        all_goals
          go_wp2_with fail
          go_meet
          exact ⟨rfl, HR6.out⟩
      · simp only [Value.slice.injEq, true_and] at e
        obtain ⟨rfl, rfl⟩ := e
        by_cases hck : c2 - K = 0
        · obtain rfl : K = L.length := by omega
          obtain rfl : c2 = L.length := by omega
          have hj : ∀ W A, OdR w L w2.heap.size (.slice (some ⟨g, 0, none⟩) L.length L.length) w2.heap.size W → Calls Tryz.prog 18 #[.slice A 0 0] W fun e w' => e = .returned (.string S2) ∧ Below W.heap.size W w' := fun W A h => HJ2.out W _ h (by
            rw [List.drop_length]
            exact RdI.none_ _ _ _ _ (by unfold maxLen; omega))
          have HJ := Lib.hid hj
          clear hj
          have hoc := HOC.out _ HR5.out
          go_region_with ((go_at_call 18; refine (HJ.out _ _ HR5.out.drew).mono ?_; rintro e w6 ⟨rfl, hb6⟩; have HR6 := Lib.hid (HR5.out.drew.below hb6); have hoc6 := HOC.out _ HR6.out; clear hb6))
          all_goals
            go_wp2_with fail
            go_meet
            exact ⟨rfl, HR6.out⟩
        · have hj : ∀ W, OdR w L w2.heap.size (.slice (some ⟨g, 0, none⟩) L.length c2) w2.heap.size W → Calls Tryz.prog 18 #[.slice (some ⟨g, K * 4, none⟩) (L.length - K) (c2 - K)] W fun e w' => e = .returned (.string S2) ∧ Below W.heap.size W w' := fun W h => HJ2.out W _ h (by
            have := h.rd.sub K L.length (by omega) (Nat.le_refl _) (c2 - K) (by omega) (by omega)
            rw [List.take_length, Nat.zero_add] at this
            exact this)
          have HJ := Lib.hid hj
          clear hj
          have hoc := HOC.out _ HR5.out
          go_region_with ((go_at_call 18; refine (HJ.out _ HR5.out.drew).mono ?_; rintro e w6 ⟨rfl, hb6⟩; have HR6 := Lib.hid (HR5.out.drew.below hb6); have hoc6 := HOC.out _ HR6.out; clear hb6))
          all_goals
            go_wp2_with fail
            go_meet
            exact ⟨rfl, HR6.out⟩
    case rest =>
      obtain ⟨rfl, hr6⟩ := hcut
      have HR6 := Lib.hid hr6
      have hTl : T.size ≤ 65536 := by omega
      have how := open_words (fun x hx => HOK.out x (List.take_subset _ _ hx)) hTl HT.out
      have hsl : S1.size = (jL (L.take K)).length := by rw [HS1.out]; rfl
      rw [← hsl] at how
      have hwords := fun W (h : Env W) => words_any T W h (by omega)
      have hcut1 : (T.extract (S1.size + 1) T.size).data.toList = oddM.getD 27 [] ++ 10 :: jL (L.drop K) := by
        rw [Lib.extract_to_end, HT.out]
        have e : jL (L.take K) ++ 10 :: (oddM.getD 27 [] ++ 10 :: jL (L.drop K)) = (jL (L.take K) ++ [10]) ++ (oddM.getD 27 [] ++ 10 :: jL (L.drop K)) := by simp
        rw [e, List.drop_left' (by simp; omega)]
      have hcon : ∀ W, Env W → 0 ≤ Lib.index (oddM.getD 27 [] ++ 10 :: jL (L.drop K)) [42, 47] → Calls Tryz.prog 20 #[.string (T.extract (S1.size + 1) T.size), .string ⟨#[42, 47]⟩] W fun e w' => e = .returned (.bool true) ∧ W = w' := fun W h h2 => contains_any _ W h (by simp [ByteArray.size_extract]; omega) (by rw [hcut1]; exact h2)
      have HCON := Lib.hid hcon
      have hcs : (∃ E P l, wordsR T = ⟨E, P, l⟩) := ⟨_, _, _, rfl⟩
      obtain ⟨E, P, lw, hR⟩ := hcs
      have hcase : (E = 30 ∧ P = S1.size + 1) ∨ (¬ (E = 30 ∧ P = S1.size + 1) ∧ 0 ≤ Lib.index (oddM.getD 27 [] ++ 10 :: jL (L.drop K)) [42, 47]) := by
        by_cases hx : E = 30 ∧ P = S1.size + 1
        · exact .inl hx
        · refine .inr ⟨hx, ?_⟩
          rcases how with h | h
          · rw [hR] at h
            injection h with h1 h2 h3
            exact absurd ⟨h1, h2⟩ hx
          · exact h
      simp only [hR] at hwords
      unfold WsP at hwords
      have HW := Lib.hid hwords
      have hTs0 : T.size ≤ 1000000 := by omega
      have hTs1 : (S1.size : Int) + 1 ≤ (T.size : Int) := by omega
      clear hr6 hsl hwords how hcut1 hcon hR z1 z2 z3 z4
      go_wp2_with fail
      refine (HW.out _ (HE.out.below HR6.out.bel)).mono ?_
      rintro e w7 ⟨v7, rfl, ho7, hb7⟩
      have HR7 := Lib.hid (HR6.out.below hb7)
      obtain ⟨A7, c7, rfl, _, _, _⟩ := ho7.val
      clear ho7 hb7
      rcases hcase with ⟨h30, hP⟩ | ⟨hne, hix⟩
      · have e1 : ((E : Int) == 30) = true := by simp; omega
        have e2 : ((P : Int) == (S1.size : Int) + 1) = true := by simp; omega
        clear h30 hP
        go_wp2_with fail
        refine (lexWorks_any _ (HE.out.below HR7.out.bel)).mono ?_
        rintro e w9 ⟨rfl, hb9⟩
        have HB9 := Lib.hid (HR7.out.bel.trans (hb9.mono HR7.out.bel.size))
        clear hb9
        go_wp2_with fail
        go_ret
        exact ⟨rfl, HB9.out⟩
      · by_cases h30 : E = 30
        · have e1 : ((E : Int) == 30) = true := by simp; omega
          have e2 : ((P : Int) == (S1.size : Int) + 1) = false := by
            have : P ≠ S1.size + 1 := fun h => hne ⟨h30, h⟩
            simp only [beq_eq_false_iff_ne, ne_eq]; omega
          clear h30 hne
          go_wp2_with fail
          refine (HCON.out _ (HE.out.below HR7.out.bel) hix).mono ?_
          rintro e _ ⟨rfl, rfl⟩
          go_wp2_with fail
          refine (lexWorks_any _ (HE.out.below HR7.out.bel)).mono ?_
          rintro e w9 ⟨rfl, hb9⟩
          have HB9 := Lib.hid (HR7.out.bel.trans (hb9.mono HR7.out.bel.size))
          clear hb9
          go_wp2_with fail
          go_ret
          exact ⟨rfl, HB9.out⟩
        · have e1 : ((E : Int) == 30) = false := by simp only [beq_eq_false_iff_ne, ne_eq]; omega
          clear h30 hne
          go_wp2_with fail
          refine (HCON.out _ (HE.out.below HR7.out.bel) hix).mono ?_
          rintro e _ ⟨rfl, rfl⟩
          go_wp2_with fail
          refine (lexWorks_any _ (HE.out.below HR7.out.bel)).mono ?_
          rintro e w9 ⟨rfl, hb9⟩
          have HB9 := Lib.hid (HR7.out.bel.trans (hb9.mono HR7.out.bel.size))
          clear hb9
          go_wp2_with fail
          go_ret
          exact ⟨rfl, HB9.out⟩
  · rw [hk] at hwt
    have e23 : ((N : Int) == 23) = false := by simp; omega
    have e24 : ((N : Int) == 24) = false := by simp; omega
    have e25 : ((N : Int) == 25) = false := by simp; omega
    have e26 : ((N : Int) == 26) = false := by simp; omega
    have e27 : ((N : Int) == 27) = false := by simp; omega
    have hN' : (N : Int) < 28 := by omega
    clear h1 h2 h3 h4 hk hk3
    have hj1 := fun W (h : OdR w L w2.heap.size (.slice A2 L.length c2) w2.heap.size W) => join_any (L.take K) w2.heap.size (.slice A2 K c2) W (h.rd.pre K (by omega)) h.le (by simp; omega) (fun x hx => by have := (HOK.out x (List.take_subset _ _ hx)).few; omega)
    unfold StrP at hj1
    obtain ⟨S1, hS1⟩ : ∃ S1 : ByteArray, S1 = ⟨(jL (L.take K)).toArray⟩ := ⟨_, rfl⟩
    rw [← hS1] at hj1
    have HJ1 := Lib.hid hj1
    have HS1 := Lib.hid hS1
    have hKc : (K : Int) ≤ (c2 : Int) := by omega
    clear hj1 hS1
    go_wp2_with fail
    refine (HJ1.out _ HR.out).mono ?_
    rintro e w5 ⟨rfl, hb5⟩
    have HR5 := Lib.hid (HR.out.below hb5)
    clear hb5
    go_upto_region 12 with fail
    obtain ⟨O, hO⟩ : ∃ O : ByteArray, O = ⟨(oddM.getD N []).toArray⟩ := ⟨_, rfl⟩
    have hOc : ∀ W, OdR w L w2.heap.size (.slice A2 L.length c2) w2.heap.size W → W.cell? ⟨w2.heap.size, N, none⟩ = some (.string O) := fun W h => by rw [hO]; exact (h.odd.cell N).trans (oddV_at N hN)
    have HOC := Lib.hid hOc
    have hj2 := fun W v' (h : OdR w L w2.heap.size (.slice A2 L.length c2) w2.heap.size W) (h2 : RdI W w2.heap.size v' (L.drop K)) => join_any (L.drop K) w2.heap.size v' W h2 h.le (by simp; omega) (fun x hx => by have := (HOK.out x (List.drop_subset _ _ hx)).few; omega)
    unfold StrP at hj2
    obtain ⟨S2, hS2⟩ : ∃ S2 : ByteArray, S2 = ⟨(jL (L.drop K)).toArray⟩ := ⟨_, rfl⟩
    rw [← hS2] at hj2
    have HJ2 := Lib.hid hj2
    have hl1 := jL_few (L.take K) (fun x hx => HOK.out x (List.take_subset _ _ hx))
    have hl2 := jL_few (L.drop K) (fun x hx => HOK.out x (List.drop_subset _ _ hx))
    have hl3 : (L.take K).length = K := by simp; omega
    have hl4 : (L.drop K).length = L.length - K := by simp
    have hO2 : O.size ≤ 40 := by rw [hO]; exact odd_len N hN
    have hs1 : S1.size ≤ 13000 := by rw [HS1.out]; show (jL (L.take K)).length ≤ _; omega
    have hs2 : S2.size ≤ 13000 := by rw [hS2]; show (jL (L.drop K)).length ≤ _; omega
    obtain ⟨U1, a1, u1⟩ := str_add S1 ⟨#[10]⟩ (by show S1.size + 1 ≤ _; omega)
    have z1 : U1.size = S1.size + 1 := by have := congrArg List.length u1; simpa using this
    obtain ⟨U2, a2, u2⟩ := str_add U1 O (by omega)
    have z2 : U2.size = U1.size + O.size := by have := congrArg List.length u2; simpa using this
    obtain ⟨U3, a3, u3⟩ := str_add U2 ⟨#[10]⟩ (by show U2.size + 1 ≤ _; omega)
    have z3 : U3.size = U2.size + 1 := by have := congrArg List.length u3; simpa using this
    obtain ⟨T, a4, u4⟩ := str_add U3 S2 (by omega)
    have z4 : T.size = U3.size + S2.size := by have := congrArg List.length u4; simpa using this
    have hT : T.data.toList = jL (L.take K) ++ 10 :: (oddM.getD N [] ++ 10 :: jL (L.drop K)) := by rw [u4, u3, u2, u1, HS1.out, hO, hS2]; simp
    have HT := Lib.hid hT
    clear hOc hj2 hS2 hl1 hl2 hl3 hl4 u1 u2 u3 u4 hT hO
    go_cut [14] (fun v wx => v = .string T ∧ OdR w L w2.heap.size (.slice A2 L.length c2) w2.heap.size wx)
    case first =>
      rcases HOW.out.2 with ⟨e, h0⟩ | ⟨g, cap, cur, e, hbg, _⟩
      · simp only [Value.slice.injEq] at e
        obtain ⟨rfl, hL0, rfl⟩ := e
        obtain rfl : L = [] := List.eq_nil_of_length_eq_zero hL0
        obtain rfl : K = 0 := by simp at hK; omega
        have hj : ∀ W, OdR w [] w2.heap.size (.slice none 0 0) w2.heap.size W → Calls Tryz.prog 18 #[.slice none 0 0] W fun e w' => e = .returned (.string S2) ∧ Below W.heap.size W w' := fun W h => HJ2.out W _ h (RdI.none_ _ _ _ _ (by unfold maxLen; omega))
        have HJ := Lib.hid hj
        clear hj
        have hoc := HOC.out _ HR5.out
        go_region_with ((go_at_call 18; refine (HJ.out _ HR5.out.drew).mono ?_; rintro e w6 ⟨rfl, hb6⟩; have HR6 := Lib.hid (HR5.out.drew.below hb6); have hoc6 := HOC.out _ HR6.out; clear hb6))
        all_goals
          go_wp2_with fail
          go_meet
          exact ⟨rfl, HR6.out⟩
      · simp only [Value.slice.injEq, true_and] at e
        obtain ⟨rfl, rfl⟩ := e
        by_cases hck : c2 - K = 0
        · obtain rfl : K = L.length := by omega
          obtain rfl : c2 = L.length := by omega
          have hj : ∀ W A, OdR w L w2.heap.size (.slice (some ⟨g, 0, none⟩) L.length L.length) w2.heap.size W → Calls Tryz.prog 18 #[.slice A 0 0] W fun e w' => e = .returned (.string S2) ∧ Below W.heap.size W w' := fun W A h => HJ2.out W _ h (by
            rw [List.drop_length]
            exact RdI.none_ _ _ _ _ (by unfold maxLen; omega))
          have HJ := Lib.hid hj
          clear hj
          have hoc := HOC.out _ HR5.out
          go_region_with ((go_at_call 18; refine (HJ.out _ _ HR5.out.drew).mono ?_; rintro e w6 ⟨rfl, hb6⟩; have HR6 := Lib.hid (HR5.out.drew.below hb6); have hoc6 := HOC.out _ HR6.out; clear hb6))
          all_goals
            go_wp2_with fail
            go_meet
            exact ⟨rfl, HR6.out⟩
        · have hj : ∀ W, OdR w L w2.heap.size (.slice (some ⟨g, 0, none⟩) L.length c2) w2.heap.size W → Calls Tryz.prog 18 #[.slice (some ⟨g, K * 4, none⟩) (L.length - K) (c2 - K)] W fun e w' => e = .returned (.string S2) ∧ Below W.heap.size W w' := fun W h => HJ2.out W _ h (by
            have := h.rd.sub K L.length (by omega) (Nat.le_refl _) (c2 - K) (by omega) (by omega)
            rw [List.take_length, Nat.zero_add] at this
            exact this)
          have HJ := Lib.hid hj
          clear hj
          have hoc := HOC.out _ HR5.out
          go_region_with ((go_at_call 18; refine (HJ.out _ HR5.out.drew).mono ?_; rintro e w6 ⟨rfl, hb6⟩; have HR6 := Lib.hid (HR5.out.drew.below hb6); have hoc6 := HOC.out _ HR6.out; clear hb6))
          all_goals
            go_wp2_with fail
            go_meet
            exact ⟨rfl, HR6.out⟩
    case rest =>
      obtain ⟨rfl, hr6⟩ := hcut
      have HR6 := Lib.hid hr6
      have hTl : T.size ≤ 65536 := by omega
      have hw := odd_words N (by omega) (fun x hx => HOK.out x (List.take_subset _ _ hx)) hTl HT.out
      rw [hE0] at hw
      have hsl : S1.size = (jL (L.take K)).length := by rw [HS1.out]; rfl
      rw [← hsl] at hw
      have hwords := fun W (h : Env W) => words_any T W h (by omega)
      simp only [hw] at hwords
      unfold WsP at hwords
      have HW := Lib.hid hwords
      have hwc := hr6.want.cell 0
      rw [hwt] at hwc
      have HWT := Lib.hid hwt
      clear hr6 hw hsl hwords hwc hwt
      go_wp2_with fail
      refine (HW.out _ (HE.out.below HR6.out.bel)).mono ?_
      rintro e w7 ⟨v7, rfl, ho7, hb7⟩
      have HR7 := Lib.hid (HR6.out.below hb7)
      have hwc := HR7.out.want.cell 0
      rw [HWT.out] at hwc
      obtain ⟨A7, c7, rfl, _, _, _⟩ := ho7.val
      have e1 : (([] : List Wd).length : Int) = 0 := rfl
      have e2 : ((S1.size + 1 : Nat) : Int) = (S1.size : Int) + 1 := by omega
      clear ho7 hb7
      go_wp2_with fail
      refine (lexWorks_any _ (HE.out.below HR7.out.bel)).mono ?_
      rintro e w9 ⟨rfl, hb9⟩
      have HB9 := Lib.hid (HR7.out.bel.trans (hb9.mono HR7.out.bel.size))
      clear hb9
      go_wp2_with fail
      go_ret
      exact ⟨rfl, HB9.out⟩

end Go.Proofs.YtoineheocipmaaaGreatDoor
