/-
  Unquote: the loop.
-/
import Derived.Test.YtoineheocipmaaaGreatDoorUnq2
namespace Go.Proofs.YtoineheocipmaaaGreatDoor
open Go.RowKit
open Go.Lib (byteCells)
set_option linter.unusedVariables false
set_option linter.unusedSimpArgs false

theorem MapAt.lt {w : World} {b : Nat} {xs : List (Int × Value)} (h : MapAt w b xs) : b < w.heap.size := by
  obtain ⟨es, cl, h1, _⟩ := h
  rcases Nat.lt_or_ge b w.heap.size with hlt | hge
  · exact hlt
  · rw [Array.getElem?_eq_none hge] at h1; cases h1

theorem UqR.done {w w1 wr : World} {b base top : Nat} {q : Int} {K : Option (List UInt8)} {r : ByteArray} {acc : List UInt8} {v : Value} (h : UqR w1 b base q K r acc v wr top) (hb : Below w.heap.size w w1) (hw : w.heap.size ≤ base) (h0 : r.size = 0) : BytesP w (ansR K) (.returned (.tuple #[v, .int .i64 0])) wr := by
  rw [h.nil h0]
  exact ⟨_, rfl, h.own.base_ hw, hb.trans (h.bel.mono hw)⟩
theorem UqR.fails {w w1 wr wx : World} {b base top : Nat} {q : Int} {K : Option (List UInt8)} {r : ByteArray} {acc : List UInt8} {v : Value} (h : UqR w1 b base q K r acc v wr top) (hb : Below w.heap.size w w1) (hw : w.heap.size ≤ base) (hx : Below base wr wx) (hK : K = none) : BytesP w (ansR K) (.returned (.tuple #[.slice none 0 0, .int .i64 21])) wx := by
  rw [hK]
  exact ⟨_, rfl, Own.nil _ _, hb.trans ((h.bel.trans hx).mono hw)⟩

set_option maxRecDepth 100000 in
set_option maxHeartbeats 1000000 in
theorem unquote_body (s : ByteArray) (w : World) (h : 2 ≤ s.size) (hsz : s.size ≤ 1000000) (q : Int) (h34 : q = 34 ∨ q = 39) (hq : ((s[0].toNat : Nat) : Int) = q) (hl : ((s[s.size - 1].toNat : Nat) : Int) = q) :
    Calls Tryz.prog 154 #[.string s] w (BytesP w (ansR (uqF q s.size ((s.data.toList.drop 1).take (s.size - 2))))) := by
  obtain ⟨i0, hi0, hz0, hz1, hz2⟩ := info_parts Tryz.info5
  have h' : decide ((s.size : Int) < 2) = false := by simp; omega
  have hp : 0 < s.size := by omega
  have hwr : IntKind.i64.wrap ((s.size : Int) - 1) = (s.size : Int) - 1 := IntWalk.i64_in _ (by omega)
  have j0 : (0 : Int) ≤ (s.size : Int) - 1 := by omega
  have j1 : ((s.size : Int) - 1).toNat = s.size - 1 := by omega
  have j2 : (s.size : Int) - 1 < (s.size : Int) := by omega
  have j3 : (1 : Int) ≤ (s.size : Int) := by omega
  have j4 : (1 : Int) ≤ (s.size : Int) - 1 := by omega
  have j5 : (s.size : Int) - 1 ≤ (s.size : Int) := by omega
  have hes : ∃ B, ∀ W : World, W.heap = w.heap → Calls Tryz.prog 200 #[] W fun e w' => e = .returned (.map (some B)) ∧ (MapAt w' B escs ∧ Below w.heap.size W w' ∧ B < w'.heap.size) := ⟨w.heap.size + 1 + 1, fun W hW => by
    refine (escapes_any W).mono fun e w' hh => ?_
    rw [hW] at hh
    exact ⟨hh.1, hh.2.1, hh.2.2, hh.2.1.lt⟩⟩
  obtain ⟨B, hes⟩ := hes
  have HES := Lib.hid hes
  obtain ⟨K, hK⟩ : ∃ K, K = uqF q s.size ((s.data.toList.drop 1).take (s.size - 2)) := ⟨_, rfl⟩
  rw [← hK]
  have HK := Lib.hid hK
  have hx1 : (s.extract 1 (s.size - 1)).data.toList = (s.data.toList.drop 1).take (s.size - 2) := by
    rw [show s.size - 2 = s.size - 1 - 1 by omega]
    simp [ByteArray.data_extract, Array.toList_extract, List.extract_eq_take_drop]
  have hx2 : (s.extract 1 (s.size - 1)).size + 2 = s.size := by
    simp [ByteArray.size_extract]; omega
  have HX := Lib.hid (And.intro hx1 hx2)
  clear hx1 hx2
  clear hK hes
  rcases h34 with rfl | rfl
  · go_enter Tryz.func154, Tryz.ntmps154
    go_wp2_with fail
    go_step3
    go_wp2_with fail
    go_quiet (fail)
    go_wp2_with fail
    go_quiet (fail)
    go_wp2_with fail
    refine (HES.out _ (by rfl)).mono ?_
    rintro e w1 ⟨rfl, H1⟩
    have HW := Lib.hid H1
    have hs1 : w.heap.size ≤ w1.heap.size := H1.2.1.size
    have hr0 : (s.extract 1 (s.size - 1)).size ≤ 1000000 := by have := HX.out.2; omega
    have HB := Lib.hid ((Below.drewN_ (Below.refl w.heap.size w) _).trans H1.2.1)
    clear H1
    generalize s.extract 1 (s.size - 1) = r0 at *
    go_wp2_with (at_make; refine wpList_make_own _ rfl _ _ 42 rfl w1.heap.size 5 i0 (.int .u8 0) 1 Tryz.underlying42 hi0 hz0 hz1 .i64 .i64 _ r0.size rfl rfl (by omega) (by rw [hz2]; omega) (by unfold maxLen; omega) (Nat.le_refl _) ?_; intro w2 hown2 hgrow2)
    have hu : UqR w1 B w1.heap.size 34 K r0 [] (.slice (some ⟨w1.heap.size, 0, none⟩) 0 r0.size) w2 (4 * s.size) := by
      refine ⟨⟨s.size, by have := HX.out.2; omega, ?_⟩, hown2, (Below.refl _ _).grown hgrow2 (Nat.le_refl _) (fun g e => by cases e), HW.out.1.below ((Below.refl _ _).grown hgrow2 (Nat.le_refl _) (fun g e => by cases e)) HW.out.2.2, by have := HX.out.2; simp; omega⟩
      rw [HX.out.1, HK.out]
      simp
    have HU := Lib.hid hu
    clear hu hown2 hgrow2
    go_step3
    go_wp2_with fail
    go_loopg [5, 7] r0.size (fun g s5 v wr => ∃ (r : ByteArray) (acc : List UInt8), s5 = .string r ∧ r.size ≤ g ∧ UqR w1 B w1.heap.size 34 K r acc v wr (4 * s.size))
    case atStart => exact ⟨r0, [], rfl, Nat.le_refl _, HU.out⟩
    case round =>
      obtain ⟨r, acc, rfl, hrg, hrel⟩ := hrel
      clear HU HX HK
      have HR := Lib.hid hrel
      have hln : acc.length + 4 * r.size ≤ 4000000 := by have := hrel.len; omega
      have hb0 := hrel.bel.size
      rcases Nat.eq_zero_or_pos r.size with h0 | hrp
      · have hn := (str_nil h0).1
        have hn2 := (str_nil h0).2
        clear hrel
        go_wp2_with fail
        try rw [Exit.noGoto_ret]
        go_ret2
        exact HR.out.done HB.out hs1 h0
      · have e1 := (str_ne hrp).1
        have e2 := (str_ne hrp).2
        have hc0 := r[0].toNat_lt
        have hone : (0 : Int) ≤ 1 := by omega
        have hone1 : (1 : Int) ≤ (r.size : Int) := by omega
        by_cases c1 : ((r[0].toNat : Nat) : Int) < 32
        · have HK := Lib.hid (hrel.bad hrp (.inl c1))
          clear hrel
          go_wp2_with fail
          try rw [Exit.noGoto_ret]
          go_ret2
          exact HR.out.fails HB.out hs1 (Below.refl _ _) HK.out
        · by_cases c2 : ((r[0].toNat : Nat) : Int) = 34
          · have HK := Lib.hid (hrel.bad hrp (.inr (.inl c2)))
            have c2a : (((r[0].toNat : Nat) : Int) == 34) = true := by simpa using c2
            clear hrel c2
            go_wp2_with fail
            try rw [Exit.noGoto_ret]
            go_ret2
            exact HR.out.fails HB.out hs1 (Below.refl _ _) HK.out
          · have c2a : (((r[0].toNat : Nat) : Int) == 34) = false := by simpa using c2
            have C2 := Lib.hid c2
            clear c2
            by_cases c3 : ((r[0].toNat : Nat) : Int) = 92
            · have c3a : (((r[0].toNat : Nat) : Int) == 92) = true := by simpa using c3
              have c3b : (((r[0].toNat : Nat) : Int) != 92) = false := by simpa using c3
              have C3 := Lib.hid c3
              obtain ⟨⟨bs, m⟩, hm⟩ : ∃ x, escL (r.extract 1 r.size).data.toList = x := ⟨_, rfl⟩
              have hcall := escaped_any (r.extract 1 r.size) hrel.own hrel.map_ (by simp [ByteArray.size_extract]; omega) hb0 (by omega)
              rw [hm] at hcall
              have hle := escL_le (r.extract 1 r.size).data.toList
              rw [hm, Lib.extract_to_end] at hle
              simp only [List.length_drop, Array.length_toList, ByteArray.size_data] at hle
              have HC := Lib.hid hcall
              have HM := Lib.hid hm
              clear hcall hm c3
              rcases Nat.eq_zero_or_pos m with hm0 | hm0
              · have HK := Lib.hid (hrel.bad hrp (.inr (.inr ⟨C3.out, by rw [HM.out]; exact hm0⟩)))
                subst hm0
                clear hrel hle
                go_wp2_with fail
                refine HC.out.mono ?_
                rintro e w3 ⟨v3, rfl, ho3, hb3⟩
                go_wp2_with fail
                try rw [Exit.noGoto_ret]
                go_ret2
                exact HR.out.fails HB.out hs1 hb3 HK.out
              · have hmz : (((m : Nat) : Int) == 0) = false := by simp; omega
                have hw1 : IntKind.i64.wrap (1 + (m : Int)) = 1 + (m : Int) := IntWalk.i64_in _ (by omega)
                have m0 : (0 : Int) ≤ 1 + (m : Int) := by omega
                have m1 : (1 + (m : Int)).toNat = 1 + m := by omega
                have m2 : 1 + (m : Int) ≤ (r.size : Int) := by omega
                clear hrel hle
                go_wp2_with fail
                refine HC.out.mono ?_
                rintro e w3 ⟨v3, rfl, ho3, hb3⟩
                go_wp2_with fail
                go_quiet (fail)
                go_wp2_with fail
                go_roundg (gk - 1)
                case measure => omega
                case rel =>
                  have hst := HR.out.esc hrp HW.out.2.2 C2.out C3.out HM.out (by omega) (ho3.drewN nq) (Below.drewN_ hb3 nq)
                  exact ⟨_, _, rfl, by have := hst.1; simp [ByteArray.size_extract]; omega, hst.2⟩
            · have C3 := Lib.hid c3
              have c3a : (((r[0].toNat : Nat) : Int) == 92) = false := by simpa using c3
              have c3b : (((r[0].toNat : Nat) : Int) != 92) = true := by simpa using c3
              have OW := Lib.hid hrel.own
              have hl1 : acc.length + 1 ≤ maxLen := by unfold maxLen; omega
              have hl2 : (acc.length + 1) * 1 ≤ 140737488355328 := by omega
              clear c3 hrel
              go_wp2_with fail
              go_region_held3 (fun _ => True) (trivial)
                ((refine step_append_lies _ (by rfl) _ _ _ (by rfl) w1.heap.size 5 i0 (.int .u8 0) 1 1 Tryz.underlying42 hi0 hz0 hz1 hz2 rfl (by omega) u7 acc.length (byteCells acc) (by rfl) ((OW.out.alloc _).drew)
                    ⟨wr.heap.size, 0, none⟩ 1 1 [.int .u8 ((r[0].toNat : Nat) : Int)] (by rfl) (by rfl) (World.news_of_block (cs := #[.int .u8 ((r[0].toNat : Nat) : Int)]) (t := 5) (fr := (0, 0)) (heap_alloc_new wr _)) (by simp [Value.oneCell'])
                    (by omega) hl1 hl2 (by simp; omega) (wr.heap.size + 1) (by simp) ?_; intro gg cap w3 hown3 hgrow3 hat3 hlt3))
              go_wp2_with fail
              go_roundg (gk - 1)
              case measure => omega
              case rel =>
                have hown4 : Own w3 w1.heap.size (.slice (some ⟨gg, 0, none⟩) (acc.length + 1) cap) (acc ++ [UInt8.ofNat ((r[0].toNat : Nat) : Int).toNat]) := by
                  unfold Own
                  rw [List.length_append, Lib.byteCells_append]
                  have e : byteCells [UInt8.ofNat ((r[0].toNat : Nat) : Int).toNat] = [.int .u8 ((r[0].toNat : Nat) : Int)] := by simp only [byteCells, List.map_cons, List.map_nil]; rw [ofNat_toNat8 (by omega) (by omega)]
                  rw [e]
                  exact hown3
                refine ⟨_, _, rfl, ?_, HR.out.plain hrp HW.out.2.2 (by omega) C2.out C3.out hown4 (Below.grown ((((Below.refl _ _).alloc (Nat.le_refl _) _).drew).mono hb0) hgrow3 (by simp; omega) (fun g e => (OW.out.lt e).1))⟩
                simp [ByteArray.size_extract]; omega
  · go_enter Tryz.func154, Tryz.ntmps154
    go_wp2_with fail
    go_step3
    go_wp2_with fail
    go_quiet (fail)
    go_wp2_with fail
    go_quiet (fail)
    go_wp2_with fail
    refine (HES.out _ (by rfl)).mono ?_
    rintro e w1 ⟨rfl, H1⟩
    have HW := Lib.hid H1
    have hs1 : w.heap.size ≤ w1.heap.size := H1.2.1.size
    have hr0 : (s.extract 1 (s.size - 1)).size ≤ 1000000 := by have := HX.out.2; omega
    have HB := Lib.hid ((Below.drewN_ (Below.refl w.heap.size w) _).trans H1.2.1)
    clear H1
    generalize s.extract 1 (s.size - 1) = r0 at *
    go_wp2_with (at_make; refine wpList_make_own _ rfl _ _ 42 rfl w1.heap.size 5 i0 (.int .u8 0) 1 Tryz.underlying42 hi0 hz0 hz1 .i64 .i64 _ r0.size rfl rfl (by omega) (by rw [hz2]; omega) (by unfold maxLen; omega) (Nat.le_refl _) ?_; intro w2 hown2 hgrow2)
    have hu : UqR w1 B w1.heap.size 39 K r0 [] (.slice (some ⟨w1.heap.size, 0, none⟩) 0 r0.size) w2 (4 * s.size) := by
      refine ⟨⟨s.size, by have := HX.out.2; omega, ?_⟩, hown2, (Below.refl _ _).grown hgrow2 (Nat.le_refl _) (fun g e => by cases e), HW.out.1.below ((Below.refl _ _).grown hgrow2 (Nat.le_refl _) (fun g e => by cases e)) HW.out.2.2, by have := HX.out.2; simp; omega⟩
      rw [HX.out.1, HK.out]
      simp
    have HU := Lib.hid hu
    clear hu hown2 hgrow2
    go_step3
    go_wp2_with fail
    go_loopg [5, 7] r0.size (fun g s5 v wr => ∃ (r : ByteArray) (acc : List UInt8), s5 = .string r ∧ r.size ≤ g ∧ UqR w1 B w1.heap.size 39 K r acc v wr (4 * s.size))
    case atStart => exact ⟨r0, [], rfl, Nat.le_refl _, HU.out⟩
    case round =>
      obtain ⟨r, acc, rfl, hrg, hrel⟩ := hrel
      clear HU HX HK
      have HR := Lib.hid hrel
      have hln : acc.length + 4 * r.size ≤ 4000000 := by have := hrel.len; omega
      have hb0 := hrel.bel.size
      rcases Nat.eq_zero_or_pos r.size with h0 | hrp
      · have hn := (str_nil h0).1
        have hn2 := (str_nil h0).2
        clear hrel
        go_wp2_with fail
        try rw [Exit.noGoto_ret]
        go_ret2
        exact HR.out.done HB.out hs1 h0
      · have e1 := (str_ne hrp).1
        have e2 := (str_ne hrp).2
        have hc0 := r[0].toNat_lt
        have hone : (0 : Int) ≤ 1 := by omega
        have hone1 : (1 : Int) ≤ (r.size : Int) := by omega
        by_cases c1 : ((r[0].toNat : Nat) : Int) < 32
        · have HK := Lib.hid (hrel.bad hrp (.inl c1))
          clear hrel
          go_wp2_with fail
          try rw [Exit.noGoto_ret]
          go_ret2
          exact HR.out.fails HB.out hs1 (Below.refl _ _) HK.out
        · by_cases c2 : ((r[0].toNat : Nat) : Int) = 39
          · have HK := Lib.hid (hrel.bad hrp (.inr (.inl c2)))
            have c2a : (((r[0].toNat : Nat) : Int) == 39) = true := by simpa using c2
            clear hrel c2
            go_wp2_with fail
            try rw [Exit.noGoto_ret]
            go_ret2
            exact HR.out.fails HB.out hs1 (Below.refl _ _) HK.out
          · have c2a : (((r[0].toNat : Nat) : Int) == 39) = false := by simpa using c2
            have C2 := Lib.hid c2
            clear c2
            by_cases c3 : ((r[0].toNat : Nat) : Int) = 92
            · have c3a : (((r[0].toNat : Nat) : Int) == 92) = true := by simpa using c3
              have c3b : (((r[0].toNat : Nat) : Int) != 92) = false := by simpa using c3
              have C3 := Lib.hid c3
              obtain ⟨⟨bs, m⟩, hm⟩ : ∃ x, escL (r.extract 1 r.size).data.toList = x := ⟨_, rfl⟩
              have hcall := escaped_any (r.extract 1 r.size) hrel.own hrel.map_ (by simp [ByteArray.size_extract]; omega) hb0 (by omega)
              rw [hm] at hcall
              have hle := escL_le (r.extract 1 r.size).data.toList
              rw [hm, Lib.extract_to_end] at hle
              simp only [List.length_drop, Array.length_toList, ByteArray.size_data] at hle
              have HC := Lib.hid hcall
              have HM := Lib.hid hm
              clear hcall hm c3
              rcases Nat.eq_zero_or_pos m with hm0 | hm0
              · have HK := Lib.hid (hrel.bad hrp (.inr (.inr ⟨C3.out, by rw [HM.out]; exact hm0⟩)))
                subst hm0
                clear hrel hle
                go_wp2_with fail
                refine HC.out.mono ?_
                rintro e w3 ⟨v3, rfl, ho3, hb3⟩
                go_wp2_with fail
                try rw [Exit.noGoto_ret]
                go_ret2
                exact HR.out.fails HB.out hs1 hb3 HK.out
              · have hmz : (((m : Nat) : Int) == 0) = false := by simp; omega
                have hw1 : IntKind.i64.wrap (1 + (m : Int)) = 1 + (m : Int) := IntWalk.i64_in _ (by omega)
                have m0 : (0 : Int) ≤ 1 + (m : Int) := by omega
                have m1 : (1 + (m : Int)).toNat = 1 + m := by omega
                have m2 : 1 + (m : Int) ≤ (r.size : Int) := by omega
                clear hrel hle
                go_wp2_with fail
                refine HC.out.mono ?_
                rintro e w3 ⟨v3, rfl, ho3, hb3⟩
                go_wp2_with fail
                go_quiet (fail)
                go_wp2_with fail
                go_roundg (gk - 1)
                case measure => omega
                case rel =>
                  have hst := HR.out.esc hrp HW.out.2.2 C2.out C3.out HM.out (by omega) (ho3.drewN nq) (Below.drewN_ hb3 nq)
                  exact ⟨_, _, rfl, by have := hst.1; simp [ByteArray.size_extract]; omega, hst.2⟩
            · have C3 := Lib.hid c3
              have c3a : (((r[0].toNat : Nat) : Int) == 92) = false := by simpa using c3
              have c3b : (((r[0].toNat : Nat) : Int) != 92) = true := by simpa using c3
              have OW := Lib.hid hrel.own
              have hl1 : acc.length + 1 ≤ maxLen := by unfold maxLen; omega
              have hl2 : (acc.length + 1) * 1 ≤ 140737488355328 := by omega
              clear c3 hrel
              go_wp2_with fail
              go_region_held3 (fun _ => True) (trivial)
                ((refine step_append_lies _ (by rfl) _ _ _ (by rfl) w1.heap.size 5 i0 (.int .u8 0) 1 1 Tryz.underlying42 hi0 hz0 hz1 hz2 rfl (by omega) u7 acc.length (byteCells acc) (by rfl) ((OW.out.alloc _).drew)
                    ⟨wr.heap.size, 0, none⟩ 1 1 [.int .u8 ((r[0].toNat : Nat) : Int)] (by rfl) (by rfl) (World.news_of_block (cs := #[.int .u8 ((r[0].toNat : Nat) : Int)]) (t := 5) (fr := (0, 0)) (heap_alloc_new wr _)) (by simp [Value.oneCell'])
                    (by omega) hl1 hl2 (by simp; omega) (wr.heap.size + 1) (by simp) ?_; intro gg cap w3 hown3 hgrow3 hat3 hlt3))
              go_wp2_with fail
              go_roundg (gk - 1)
              case measure => omega
              case rel =>
                have hown4 : Own w3 w1.heap.size (.slice (some ⟨gg, 0, none⟩) (acc.length + 1) cap) (acc ++ [UInt8.ofNat ((r[0].toNat : Nat) : Int).toNat]) := by
                  unfold Own
                  rw [List.length_append, Lib.byteCells_append]
                  have e : byteCells [UInt8.ofNat ((r[0].toNat : Nat) : Int).toNat] = [.int .u8 ((r[0].toNat : Nat) : Int)] := by simp only [byteCells, List.map_cons, List.map_nil]; rw [ofNat_toNat8 (by omega) (by omega)]
                  rw [e]
                  exact hown3
                refine ⟨_, _, rfl, ?_, HR.out.plain hrp HW.out.2.2 (by omega) C2.out C3.out hown4 (Below.grown ((((Below.refl _ _).alloc (Nat.le_refl _) _).drew).mono hb0) hgrow3 (by simp; omega) (fun g e => (OW.out.lt e).1))⟩
                simp [ByteArray.size_extract]; omega

/-- Unquote answers as the chapter says. -/
theorem unquote_any (s : ByteArray) (w : World) (hsz : s.size ≤ 1000000) : Calls Tryz.prog 154 #[.string s] w (BytesP w (ansR (unqL s.data.toList))) := by
  unfold unqL
  have hl : s.data.toList.length = s.size := by simp
  by_cases h2 : s.size < 2
  · rw [if_pos (by omega)]
    exact unquote_short s w h2
  · rw [if_neg (by omega)]
    have hp : 0 < s.size := by omega
    have hh : s.data.toList.headD 0 = s[0] := by
      rw [str_at s 0 hp, List.headD_eq_head?_getD, List.head?_eq_getElem?, List.getElem?_eq_getElem (by omega)]
      rfl
    have hlast : s.data.toList.getD (s.data.toList.length - 1) 0 = s[s.size - 1] := by
      have e : s.data.toList[s.size - 1]? = some (s.data.toList[s.size - 1]'(by omega)) := List.getElem?_eq_getElem (by omega)
      rw [hl, List.getD, e]
      rfl
    rw [hh, hlast]
    by_cases hq : s[0].toNat ≠ 34 ∧ s[0].toNat ≠ 39
    · rw [if_pos hq]
      exact unquote_odd s w (by omega) hsz (by omega) (by omega)
    · rw [if_neg hq]
      have h34 : ((s[0].toNat : Nat) : Int) = 34 ∨ ((s[0].toNat : Nat) : Int) = 39 := by omega
      by_cases he : s[s.size - 1] = s[0]
      · rw [if_neg (by simpa using he), hl]
        exact unquote_body s w (by omega) hsz _ h34 rfl (by rw [he])
      · rw [if_pos he]
        refine unquote_apart s w (by omega) hsz _ h34 rfl fun hc => he ?_
        apply UInt8.toNat_inj.1
        omega
end Go.Proofs.YtoineheocipmaaaGreatDoor
