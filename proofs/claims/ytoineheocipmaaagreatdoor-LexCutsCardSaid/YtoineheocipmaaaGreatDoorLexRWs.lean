/-
  lex: the document's answer: the words of a text.
-/
import Derived.Test.YtoineheocipmaaaGreatDoorLexRW
import Derived.Test.YtoineheocipmaaaGreatDoorLexSk
namespace Go.Proofs.YtoineheocipmaaaGreatDoor
open Go.RowKit
set_option linter.unusedVariables false
set_option linter.unusedSimpArgs false

structure RsR (w : World) (s : ByteArray) (R : WR) (v : Value) (p : Nat) (acc : List Wd) (wr : World) : Prop where
  own : OwnW wr w.heap.size v acc
  bel : Below w.heap.size w wr
  le : p ≤ s.size
  few : acc.length ≤ p
  fin : ∃ k, s.size - p < k ∧ R = comb acc (wdF s k p)

set_option maxRecDepth 100000 in
set_option maxHeartbeats 1000000 in
theorem refWords_any (s : ByteArray) (w : World) (hs : s.size ≤ 1000000) : Calls Tryz.prog 14 #[.string s] w (WsP w (wordsR s)) := by
  obtain ⟨i0, hi0, hz0, hz1, hz2⟩ := info_parts Tryz.info33
  unfold wordsR
  by_cases hbig : 65536 < s.size
  · rw [if_pos hbig]
    have hbig' : (65536 : Int) < (s.size : Int) := by omega
    go_enter Tryz.func14, Tryz.ntmps14
    go_wp2_with fail
    refine bodyPost_ret (v := .tuple #[.slice none 0 0, .int .i64 0, .int .i64 5]) (by simp [results, Tryz.results14, go_sem]) rfl ⟨_, rfl, OwnW.nil _ _, Below.refl _ _⟩
  · rw [if_neg hbig]
    have hbig' : ¬ (65536 : Int) < (s.size : Int) := by omega
    obtain ⟨R, hR⟩ : ∃ R, R = wdF s (s.size + 1) 0 := ⟨_, rfl⟩
    rw [← hR]
    have HR := Lib.hid hR
    have hst : RsR w s R (.slice none 0 0) 0 [] w := by
      refine ⟨OwnW.nil _ _, Below.refl _ _, by omega, by simp, s.size + 1, by omega, ?_⟩
      rw [hR]
      unfold comb
      split
      · rfl
      · rename_i h
        have h' : (wdF s (s.size + 1) 0).e = 0 := by simpa using h
        rw [List.nil_append]
        exact wd_at0 s _ _ h'
    have HST := Lib.hid hst
    clear hR hbig hst
    go_enter Tryz.func14, Tryz.ntmps14
    go_wp2_with fail
    go_loopg [5, 6] (s.size + 1) (fun g v5 v6 wr => ∃ (p : Nat) (acc : List Wd), g = s.size + 1 - p ∧ v6 = .int .i64 p ∧ RsR w s R v5 p acc wr)
    case atStart => exact ⟨0, [], rfl, rfl, HST.out⟩
    case round =>
      obtain ⟨p, acc, rfl, rfl, hrel⟩ := hrel
      obtain ⟨q, O, hqO⟩ : ∃ q O, q = p + (skL (s.data.toList.drop p)).1 ∧ O = (skL (s.data.toList.drop p)).2 := ⟨_, _, rfl, rfl⟩
      obtain ⟨hq, hO⟩ := hqO
      have hql : q ≤ s.size := by
        have := skL_le (s.data.toList.drop p).length (s.data.toList.drop p)
        have h2 : (s.data.toList.drop p).length = s.size - p := by simp
        have h3 := hrel.le
        unfold skL at hq
        omega
      have hpq : p ≤ q := by omega
      obtain ⟨k, hk, hfin⟩ := hrel.fin
      obtain ⟨k, rfl⟩ : ∃ k', k = k' + 1 := ⟨k - 1, by omega⟩
      rw [wdF] at hfin
      simp only [← hq, ← hO] at hfin
      have hsk := fun W => refSkip_any s p W hrel.le hs
      rw [← hq, ← hO] at hsk
      have HSK := Lib.hid hsk
      have HREL := Lib.hid hrel
      have HFIN := Lib.hid hfin
      have hfew := hrel.few
      obtain ⟨A2, c2, rfl, hc2, hc3, _⟩ := hrel.own.val
      clear hq hO hrel hfin hsk
      go_wp2_with fail
      refine (HSK.out _).mono ?_
      rintro e w1 ⟨rfl, hb1⟩
      have HOW1 := Lib.hid (HREL.out.own.below hb1)
      have HBE1 := Lib.hid (HREL.out.bel.trans (hb1.mono HREL.out.bel.size))
      clear hb1 HSK HREL
      cases O
      · have hR2 : R = ⟨30, q, []⟩ := by rw [HFIN.out, if_pos rfl]; rfl
        have HR2 := Lib.hid hR2
        clear hR2
        go_wp2_with fail
        refine bodyPost_ret (v := .tuple #[.slice none 0 0, .int .i64 q, .int .i64 30]) (by simp [results, Tryz.results14, go_sem]) rfl ?_
        rw [HR2.out]
        exact ⟨_, rfl, OwnW.nil _ _, HBE1.out⟩
      · by_cases hend : q = s.size
        · have hR2 : R = ⟨0, 0, acc ++ [⟨0, q, ⟨#[]⟩, 0⟩]⟩ := by rw [HFIN.out, if_neg (by simp), if_pos hend]; rfl
          have HR2 := Lib.hid hR2
          have he : ((q : Int) == (s.size : Int)) = true := by simp; omega
          have hal : acc.length ≤ 1073741824 := by omega
          have HAL := Lib.hid hal
          clear hR2 hend hal
          have hba : w.heap.size ≤ (w1.alloc (.cells #[.int .i64 0, .int .i64 q, .string ⟨#[]⟩, .int .i64 0] 33)).heap.size := by have := HBE1.out.size; simp; omega
          have HBA := Lib.hid hba
          have hwo : OwnW (w1.alloc (.cells #[.int .i64 0, .int .i64 q, .string ⟨#[]⟩, .int .i64 0] 33)) w.heap.size (.slice A2 acc.length c2) acc := HOW1.out.below ((Below.refl _ _).alloc (Nat.le_refl _) _)
          have HWO := Lib.hid hwo
          clear hba hwo
          go_wp2_with (at_builtin; refine wpList_append_w _ rfl _ _ 22 rfl i0 Tryz.underlying22 hi0 hz0 hz1 hz2 w.heap.size _ acc rfl HWO.out w1.heap.size ⟨0, q, ⟨#[]⟩, 0⟩ rfl (Blk.new w1 33 _) HAL.out HBA.out ?_; intro v5 w5 ho5 hg5)
          have hb5 : Below w.heap.size w w5 := (HBE1.out.alloc HBE1.out.size _).trans (hg5.below HBA.out (fun g e => (HWO.out.lt e).1))
          have HB5 := Lib.hid hb5
          obtain ⟨A5, c5, rfl, _⟩ := ho5.val
          have HO5 := Lib.hid ho5
          clear ho5 hg5 hb5
          go_wp2_with fail
          refine bodyPost_ret (v := .tuple #[.slice A5 (acc ++ [(⟨0, q, ⟨#[]⟩, 0⟩ : Wd)]).length c5, .int .i64 0, .int .i64 0]) (by simp [results, Tryz.results14, go_sem]) rfl ?_
          rw [HR2.out]
          exact ⟨_, rfl, HO5.out, HB5.out⟩
        · have he : ((q : Int) == (s.size : Int)) = false := by simp; omega
          have hqs : q < s.size := by omega
          have hgd : s.data.toList.getD q 0 = s[q] := by
            rw [List.getD_eq_getElem?_getD, List.getElem?_eq_getElem (by simpa using hqs)]; rfl
          have hfin := HFIN.out
          rw [if_neg (by simp), if_neg hend, hgd] at hfin
          have htk := fun h => tk_size (s := s) hqs h
          have hwd := fun W => refWord_any s q W hqs hs
          generalize tkR s q s[q] = T at *
          have HFI2 := Lib.hid hfin
          have HTK := Lib.hid htk
          have HWD := Lib.hid hwd
          clear hfin htk hend hgd HFIN hwd
          go_wp2_with fail
          refine (HWD.out _).mono ?_
          rintro e w3 ⟨k3, q3, t3, n3, z3, rfl, hb3, hok⟩
          have HOW3 := Lib.hid (HOW1.out.below hb3)
          have HBE3 := Lib.hid (HBE1.out.trans (hb3.mono HBE1.out.size))
          have HOK := Lib.hid hok
          clear hb3 hok HOW1 HBE1 HWD
          unfold wv
          by_cases hE : T.e = 0
          · obtain ⟨rfl, rfl, rfl, rfl, rfl⟩ := HOK.out hE
            have hT0 : ((T.e : Int) != 0) = false := by rw [hE]; rfl
            obtain ⟨z1, z2⟩ := HTK.out hE
            have hfi := HFI2.out
            rw [if_neg (by simpa using hE), comb_next] at hfi
            have HFI3 := Lib.hid hfi
            clear hfi HFI2 HTK HOK hE
            obtain ⟨h2a, h2b, h2c⟩ := two33 w3 #[.int .i64 T.k, .int .i64 q3, .string T.t, .int .i64 T.n] #[.int .i64 T.k, .int .i64 q3, .string T.t, .int .i64 T.n]
            have HWO := Lib.hid (HOW3.out.below h2c)
            have HBX := Lib.hid (HBE3.out.trans (h2c.mono HBE3.out.size))
            have HBB := Lib.hid h2b
            have HAL := Lib.hid (show acc.length ≤ 1073741824 by omega)
            clear h2a h2b h2c HOW3
            go_wp2_with (at_builtin; refine wpList_append_w _ rfl _ _ 22 rfl i0 Tryz.underlying22 hi0 hz0 hz1 hz2 w.heap.size _ acc rfl HWO.out (w3.heap.size + 1) ⟨T.k, q3, T.t, T.n⟩ rfl HBB.out HAL.out HBX.out.size ?_; intro v5 w5 ho5 hg5)
            have hb5 : Below w.heap.size w w5 := HBX.out.trans (hg5.below HBX.out.size (fun g e => (HWO.out.lt e).1))
            have HB5 := Lib.hid hb5
            have HO5 := Lib.hid ho5
            clear ho5 hg5 hb5 HBX HWO HBB
            go_wp2_with fail
            go_roundg (s.size + 1 - (q3 + T.z))
            case measure => omega
            case rel => exact ⟨q3 + T.z, acc ++ [⟨T.k, q3, T.t, T.n⟩], rfl, by go_num, HO5.out, HB5.out, by omega, by simp; omega, ⟨k, by omega, HFI3.out⟩⟩
          · have hT0 : ((T.e : Int) != 0) = true := by simp only [bne_iff_ne, ne_eq]; omega
            have hR2 : R = ⟨T.e, q, []⟩ := by rw [HFI2.out, if_pos hE]; unfold comb; rw [if_pos hE]
            have HR2 := Lib.hid hR2
            clear hR2 HFI2 HTK HOK
            go_wp2_with fail
            refine bodyPost_ret (v := .tuple #[.slice none 0 0, .int .i64 q, .int .i64 T.e]) (by simp [results, Tryz.results14, go_sem]) rfl ?_
            rw [HR2.out]
            exact ⟨_, rfl, OwnW.nil _ _, HBE3.out.alloc HBE3.out.size _⟩
end Go.Proofs.YtoineheocipmaaaGreatDoor
