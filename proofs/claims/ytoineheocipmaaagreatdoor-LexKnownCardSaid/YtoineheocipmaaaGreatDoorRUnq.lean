/-
  The document's Unquote, walked.
-/
import Derived.Test.YtoineheocipmaaaGreatDoorRUnqMath
import Derived.Test.YtoineheocipmaaaGreatDoorUnq3
namespace Go.Proofs.YtoineheocipmaaaGreatDoor
open Go.RowKit
set_option linter.unusedVariables false
set_option linter.unusedSimpArgs false

structure RqR (w : World) (q : UInt8) (K : Option (List UInt8)) (s : ByteArray) (v : Value) (pos : Nat) (acc : List UInt8) (wr : World) : Prop where
  own : Own wr w.heap.size v acc
  fin : (rqG q (s.data.toList.drop pos)).map (acc ++ ·) = K
  bel : Below w.heap.size w wr
  few : acc.length ≤ 4 * pos
  lo : 1 ≤ pos
  hi : pos ≤ s.size
theorem RqR.next {w wr w1 : World} {q : UInt8} {K : Option (List UInt8)} {s : ByteArray} {v v1 : Value} {pos pos' : Nat} {acc t : List UInt8} (h : RqR w q K s v pos acc wr)
    (hf : rqG q (s.data.toList.drop pos) = (rqG q (s.data.toList.drop pos')).map (t ++ ·)) (ht : t.length ≤ 4) (hp : pos < pos') (hi : pos' ≤ s.size) (hown : Own w1 w.heap.size v1 (acc ++ t)) (hb : Below w.heap.size w w1) : RqR w q K s v1 pos' (acc ++ t) w1 := by
  refine ⟨hown, ?_, hb, by have := h.few; simp; omega, by omega, hi⟩
  rw [← h.fin, hf, Option.map_map]
  congr 1
  funext x
  simp

set_option maxRecDepth 100000 in
set_option maxHeartbeats 1000000 in
theorem runquote_body (s : ByteArray) (q : UInt8) (w : World) (hsz : s.size ≤ 1000000) (h2 : 2 ≤ s.size) (hq : s[0] = q) (hqq : q = 34 ∨ q = 39) : Calls Tryz.prog 96 #[.string s] w (BytesP w (ansR (rqG q (s.data.toList.drop 1)))) := by
  obtain ⟨i0, hi0, hz0, hz1, hz2⟩ := info_parts Tryz.info5
  obtain ⟨K, hK⟩ : ∃ K, rqG q (s.data.toList.drop 1) = K := ⟨_, rfl⟩
  rw [hK]
  have hst : RqR w q K s (.slice none 0 0) 1 [] w := ⟨Own.nil _ _, by simpa using hK, Below.refl _ _, by simp, by omega, by omega⟩
  have HST := Lib.hid hst
  have hl2 : ¬ (s.size : Int) < 2 := by omega
  have h0s : 0 < s.size := by omega
  have hc1 : ((q.toNat : Int) != 34) = false ∨ (((q.toNat : Int) != 34) = true ∧ ((q.toNat : Int) != 39) = false) := by rcases hqq with rfl | rfl; exact .inl rfl; exact .inr ⟨rfl, rfl⟩
  have HQQ := Lib.hid hqq
  have hq8 := q.toNat_lt
  clear hK hst hqq
  go_enter Tryz.func96, Tryz.ntmps96
  go_upto_region 1 with fail
  go_cut [20] (fun v wx => v = .bool false ∧ w = wx)
  case first =>
    rcases hc1 with d | ⟨d, d'⟩
    all_goals
      go_wp2_with fail
      go_meet
      exact ⟨rfl, rfl⟩
  case rest =>
    obtain ⟨rfl, rfl⟩ := hcut
    clear hc1
    go_wp2_with fail
    go_loopw [4, 5] (fun v j wr => ∃ (pos : Nat) (acc : List UInt8), j = .int .i64 pos ∧ RqR w q K s v pos acc wr) (fun _ j _ => s.size - (intOf j).toNat)
    case atStart => exact ⟨1, [], rfl, HST.out⟩
    case round =>
      obtain ⟨pos, acc, rfl, hrel⟩ := hrel
      have HR := Lib.hid hrel
      have hlo := hrel.lo
      have hhi := hrel.hi
      have hfew := hrel.few
      obtain ⟨A4, c4, rfl, _⟩ := hrel.own.bs
      clear hrel
      have hpos0 : (0 : Int) ≤ (pos : Int) := by omega
      by_cases hlt : pos < s.size
      · have hlt' : (pos : Int) < (s.size : Int) := by omega
        have hdr := drop_cons s pos hlt
        have hfin := HR.out.fin
        rw [hdr, rqG_cons] at hfin
        have hrl : (s.data.toList.drop (pos + 1)).length = s.size - (pos + 1) := by simp
        obtain ⟨r, hr⟩ : ∃ r, s.data.toList.drop (pos + 1) = r := ⟨_, rfl⟩
        rw [hr] at hdr hfin hrl
        have hesc : pos + 1 < s.size → ∀ W, Calls Tryz.prog 158 #[.string s, .int .i64 ((pos : Int) + 1)] W (ErP W (escL r)) := by
          intro h W
          rw [← hr]
          exact escape_any s (pos + 1) W h hsz
        generalize hx : s[pos] = x at *
        have HDR := Lib.hid hdr
        have HRL := Lib.hid hrl
        have HESC := Lib.hid hesc
        have HRR := Lib.hid hr
        have hx8 := x.toNat_lt
        clear hr hdr hrl hesc
        by_cases hxq : x = q
        · have e1 : ((x.toNat : Int) != (q.toNat : Int)) = false := by rw [hxq]; simp
          rw [if_pos hxq] at hfin
          have HF := Lib.hid hfin
          clear hfin hxq
          by_cases hend : pos + 1 = s.size
          · have hK : K = some acc := by
              have h1 := HRL.out
              have h2 := HF.out
              rw [if_pos (List.eq_nil_of_length_eq_zero (by omega))] at h2
              rw [← h2]; simp
            have HK := Lib.hid hK
            have e2 : ((pos : Int) != (s.size : Int) - 1) = false := by simp; omega
            clear hK hend
            go_wp2_with fail
            go_quiet (fail)
            go_wp2_with fail
            go_ret2
            rw [HK.out]
            exact ⟨_, rfl, HR.out.own, Below.drewN_ HR.out.bel _⟩
          · have hK : K = none := by
              have h1 := HRL.out
              have h2 := HF.out
              rw [if_neg (by intro e; rw [e] at h1; simp at h1; omega)] at h2
              rw [← h2]; rfl
            have HK := Lib.hid hK
            have e2 : ((pos : Int) != (s.size : Int) - 1) = true := by simp; omega
            clear hK hend
            go_wp2_with fail
            go_quiet (fail)
            go_wp2_with fail
            go_ret2
            rw [HK.out]
            exact ⟨_, rfl, Own.nil _ _, Below.drewN_ HR.out.bel _⟩
        · have e1 : ((x.toNat : Int) != (q.toNat : Int)) = true := by
            simp only [bne_iff_ne, ne_eq]
            intro h
            exact hxq (UInt8.toNat_inj.1 (by omega))
          rw [if_neg hxq] at hfin
          clear hxq
          by_cases h32 : x.toNat < 32
          · have h32' : (x.toNat : Int) < 32 := by omega
            rw [if_pos h32] at hfin
            have HK := Lib.hid (show K = none by rw [← hfin]; rfl)
            clear hfin h32
            go_wp2_with fail
            go_quiet (fail)
            go_wp2_with fail
            go_ret2
            rw [HK.out]
            exact ⟨_, rfl, Own.nil _ _, Below.drewN_ HR.out.bel _⟩
          · have h32' : ¬ (x.toNat : Int) < 32 := by omega
            rw [if_neg h32] at hfin
            by_cases h92 : x.toNat ≠ 92
            · have e2 : ((x.toNat : Int) != 92) = true := by simp; omega
              rw [if_pos h92] at hfin
              have hcons : rqG q (s.data.toList.drop pos) = (rqG q (s.data.toList.drop (pos + 1))).map ([x] ++ ·) := by
                rw [HDR.out, HRR.out, rqG_cons, if_neg (by intro e; rw [e] at e1; simp at e1), if_neg h32, if_pos h92]; rfl
              have HCO := Lib.hid hcons
              have hxx : UInt8.ofNat ((x.toNat : Nat) : Int).toNat = x := by simp
              have hsg := fun W => Bs.single W (x.toNat : Int) (by omega) (by omega)
              rw [hxx] at hsg
              have HSG := Lib.hid hsg
              clear hfin h92 h32 hcons hxx hsg
              have hal : acc.length + 1 ≤ 140737488355328 := by omega
              have HAL := Lib.hid hal
              clear hal
              go_wp2_with fail
              go_quiet (fail)
              have HBD := Lib.hid (Below.drewN_ HR.out.bel nq)
              have HOD := Lib.hid (HR.out.own.drewN nq)
              generalize wr.drewN nq = wd at *
              have hbs : w.heap.size ≤ (wd.alloc (.cells #[.int .u8 (x.toNat : Int)] 5)).heap.size := by have := HBD.out.size; simp; omega
              have HBS := Lib.hid hbs
              clear hbs
              go_wp2_with (at_builtin; refine wpList_append_bs _ rfl _ _ 42 rfl i0 Tryz.underlying42 hi0 hz0 hz1 hz2 w.heap.size _ acc rfl (HOD.out.alloc _) _ _ _ _ _ _ rfl (HSG.out _) HAL.out HBS.out ?_; intro v5 w5 ho5 hg5)
              have HN := Lib.hid (HR.out.next HCO.out (by simp) (by omega) (by omega) ho5 ((HBD.out.alloc HBD.out.size _).trans (hg5.below HBS.out (fun g e => (HOD.out.lt e).1))))
              clear ho5 hg5
              go_roundw
              case rel => exact ⟨pos + 1, _, by go_num, HN.out⟩
              case measure => simp [intOf]; omega
            · have e2 : ((x.toNat : Int) != 92) = false := by simp; omega
              rw [if_neg h92] at hfin
              by_cases hend : pos + 1 = s.size
              · have e3 : ((pos : Int) + 1 == (s.size : Int)) = true := by simp; omega
                have hK : K = none := by
                  have h1 := HRL.out
                  rw [if_pos (List.eq_nil_of_length_eq_zero (by omega))] at hfin
                  rw [← hfin]; rfl
                have HK := Lib.hid hK
                clear hK hend hfin h92 h32
                go_wp2_with fail
                go_quiet (fail)
                go_wp2_with fail
                go_ret2
                rw [HK.out]
                exact ⟨_, rfl, Own.nil _ _, Below.drewN_ HR.out.bel _⟩
              · have e3 : ((pos : Int) + 1 == (s.size : Int)) = false := by simp; omega
                have hrn : ¬ r = [] := by have h1 := HRL.out; intro e; rw [e] at h1; simp at h1; omega
                rw [if_neg hrn] at hfin
                have hes := HESC.out (by omega)
                have hle := escL_le r
                have hl4 := escL_len r
                by_cases hm : (escL r).2 = 0
                · rw [if_pos hm] at hfin
                  have HK := Lib.hid (show K = none by rw [← hfin]; rfl)
                  generalize escL r = E at *
                  obtain ⟨t, m⟩ := E
                  simp only at hm
                  subst hm
                  have HES := Lib.hid hes
                  clear hfin hes hrn hend h92 h32 hle hl4
                  go_wp2_with fail
                  go_quiet (fail)
                  go_wp2_with fail
                  refine (HES.out _).mono ?_
                  rintro e w6 ⟨v6, rfl, ho6, hb6⟩
                  have HB6 := Lib.hid ((Below.drewN_ HR.out.bel nq).trans (hb6.mono (Below.drewN_ HR.out.bel nq).size))
                  clear ho6 hb6
                  go_wp2_with fail
                  go_ret2
                  rw [HK.out]
                  exact ⟨_, rfl, Own.nil _ _, HB6.out⟩
                · have hcons : rqG q (s.data.toList.drop pos) = (rqG q (s.data.toList.drop (pos + 1 + (escL r).2))).map ((escL r).1 ++ ·) := by
                    rw [HDR.out, rqG_cons, if_neg (by intro e; rw [e] at e1; simp at e1), if_neg h32, if_neg h92, if_neg hrn, if_neg hm, ← HRR.out, List.drop_drop]
                  have hml : pos + 1 + (escL r).2 ≤ s.size := by have h1 := HRL.out; omega
                  generalize escL r = E at *
                  obtain ⟨t, m⟩ := E
                  simp only at hm hcons hml hle hl4
                  have HCO := Lib.hid hcons
                  have HES := Lib.hid hes
                  have e4 : ((m : Int) == 0) = false := by simp; omega
                  have hal : acc.length + t.length ≤ 140737488355328 := by omega
                  have HAL := Lib.hid hal
                  have HL4 := Lib.hid hl4
                  clear hfin hes hrn hend h92 h32 hle hl4 hcons hm hal
                  go_wp2_with fail
                  go_quiet (fail)
                  go_wp2_with fail
                  refine (HES.out _).mono ?_
                  rintro e w6 ⟨v6, rfl, ho6, hb6⟩
                  have HB6 := Lib.hid ((Below.drewN_ HR.out.bel nq).trans (hb6.mono (Below.drewN_ HR.out.bel nq).size))
                  have hown := HR.out.own
                  have HOD := Lib.hid (show Own w6 w.heap.size (.slice A4 acc.length c4) acc from hown.kept fun g e => hb6.block g (hown.lt e).2)
                  obtain ⟨A6, c6, rfl, hB6⟩ := ho6.bs
                  have HS6 := Lib.hid hB6
                  clear ho6 hb6 hown hB6
                  go_wp2_with (at_builtin; refine wpList_append_bs _ rfl _ _ 42 rfl i0 Tryz.underlying42 hi0 hz0 hz1 hz2 w.heap.size _ acc rfl HOD.out _ _ _ _ _ _ rfl HS6.out HAL.out HB6.out.size ?_; intro v5 w5 ho5 hg5)
                  have HN := Lib.hid (HR.out.next HCO.out HL4.out (by omega) hml ho5 (HB6.out.trans (hg5.below HB6.out.size (fun g e => (HOD.out.lt e).1))))
                  clear ho5 hg5
                  go_roundw
                  case rel => exact ⟨pos + 1 + m, _, by go_num, HN.out⟩
                  case measure => simp [intOf]; omega
      · have hlt' : decide (pos < s.size) = false := by simp; omega
        have hK : K = none := by
          have hfin := HR.out.fin
          rw [List.drop_eq_nil_of_le (by simp; omega), rqG_nil] at hfin
          rw [← hfin]; rfl
        have HK := Lib.hid hK
        have e2 : ((pos : Int) != (s.size : Int) - 1) = true := by simp; omega
        clear hK hlt
        go_wp2_with fail
        go_quiet (fail)
        go_wp2_with fail
        go_ret2
        rw [HK.out]
        exact ⟨_, rfl, Own.nil _ _, Below.drewN_ HR.out.bel _⟩

set_option maxRecDepth 100000 in
set_option maxHeartbeats 1000000 in
theorem runquote_any (s : ByteArray) (w : World) (hsz : s.size ≤ 1000000) : Calls Tryz.prog 96 #[.string s] w (BytesP w (ansR (unqL s.data.toList))) := by
  rw [← rq_unq]
  unfold rqL
  have hl : s.data.toList.length = s.size := by simp
  by_cases h1 : s.size < 2
  · rw [if_pos (by omega)]
    have h1' : (s.size : Int) < 2 := by omega
    clear hl h1
    go_enter Tryz.func96, Tryz.ntmps96
    go_wp2_with fail
    go_ret2
    exact ⟨_, rfl, Own.nil _ _, Below.refl _ _⟩
  · rw [if_neg (by omega)]
    have h1' : ¬ (s.size : Int) < 2 := by omega
    have h0 : 0 < s.size := by omega
    have hh : s.data.toList.headD 0 = s[0] := by
      have := drop_cons s 0 h0
      rw [List.drop_zero] at this
      rw [this]; rfl
    rw [hh]
    by_cases hq : s[0].toNat ≠ 34 ∧ s[0].toNat ≠ 39
    · rw [if_pos hq]
      obtain ⟨q, hqq⟩ : ∃ q, s[0] = q := ⟨_, rfl⟩
      rw [hqq] at hq
      have hq8 := q.toNat_lt
      have e1 : ((q.toNat : Int) != 34) = true := by simp; omega
      have e2 : ((q.toNat : Int) != 39) = true := by simp; omega
      clear hl h1 hh hq
      go_enter Tryz.func96, Tryz.ntmps96
      go_wp2_with fail
      go_ret2
      exact ⟨_, rfl, Own.nil _ _, Below.refl _ _⟩
    · rw [if_neg hq]
      refine runquote_body s s[0] w hsz (by omega) rfl ?_
      have : s[0].toNat = 34 ∨ s[0].toNat = 39 := by omega
      rcases this with h | h
      · exact .inl (UInt8.toNat_inj.1 h)
      · exact .inr (UInt8.toNat_inj.1 h)
end Go.Proofs.YtoineheocipmaaaGreatDoor
