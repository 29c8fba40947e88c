/-
  lex: the lengths of lines and literals; what is passed between tokens.
-/
import Derived.Test.YtoineheocipmaaaGreatDoorLexA
import Derived.Test.YtoineheocipmaaaGreatDoorLexMath
import Derived.Deep.CutBlock
import Derived.Deep.LoopGhost
import Derived.Deep.RegionWith
namespace Go.Proofs.YtoineheocipmaaaGreatDoor
open Go.RowKit
set_option linter.unusedVariables false
set_option linter.unusedSimpArgs false

theorem ibyte_any (s : ByteArray) (c : UInt8) (w : World) : Calls Tryz.prog 89 #[.string s, .int .u8 (c.toNat : Nat)] w fun e w' => e = .returned (.int .i64 (Lib.indexByte s.data.toList c)) ∧ w = w' :=
  (Tryz.strings_IndexByte s (c.toNat : Nat) w).mono fun e w' ⟨h1, h2⟩ => ⟨by rw [h1]; simp, h2.symm⟩
theorem hpre_any (s p : ByteArray) (w : World) : Calls Tryz.prog 83 #[.string s, .string p] w fun e w' => e = .returned (.bool (Lib.hasPrefix s.data.toList p.data.toList)) ∧ w = w' :=
  (Tryz.strings_HasPrefix s p w).mono fun e w' ⟨h1, h2⟩ => ⟨h1, h2.symm⟩
theorem sindex_any (s sub : ByteArray) (m : Int) (w : World) (hs : s.size ≤ 1000000) (hm : w.cell? ⟨0, 0, none⟩ = some (.int .i64 m)) : Calls Tryz.prog 56 #[.string s, .string sub] w fun e w' => e = .returned (.int .i64 (Lib.index s.data.toList sub.data.toList)) ∧ w = w' :=
  (Tryz.strings_Index s sub m w (by omega) hm).mono fun e w' ⟨h1, h2⟩ => ⟨h1, h2.symm⟩

set_option maxHeartbeats 1000000 in
theorem lineLen_any (s : ByteArray) (w : World) : Calls Tryz.prog 90 #[.string s] w fun e w' => e = .returned (.int .i64 (lnL s.data.toList : Nat)) ∧ w = w' := by
  have h := fun W => ibyte_any s 10 W
  have hi := lnL_index s.data.toList
  have hl : s.data.toList.length = s.size := by simp
  rw [hl] at hi
  generalize Lib.indexByte s.data.toList 10 = x at *
  generalize lnL s.data.toList = N at *
  have H := Lib.hid h
  have HI := Lib.hid hi
  clear h hi hl
  by_cases hx : x < 0
  · have hx' : ¬ 0 ≤ x := by omega
    go_enter Tryz.func90, Tryz.ntmps90
    go_wp2_with fail
    refine (H.out _).mono ?_
    rintro e _ ⟨rfl, rfl⟩
    go_wp2_with fail
    go_ret
    have h2 := HI.out
    rw [if_pos hx] at h2
    exact ⟨ret_int h2, rfl⟩
  · have hx' : 0 ≤ x := by omega
    go_enter Tryz.func90, Tryz.ntmps90
    go_wp2_with fail
    refine (H.out _).mono ?_
    rintro e _ ⟨rfl, rfl⟩
    go_wp2_with fail
    go_ret
    have h2 := HI.out
    rw [if_neg (by omega)] at h2
    exact ⟨ret_int h2, rfl⟩

set_option maxRecDepth 100000 in
set_option maxHeartbeats 1000000 in
theorem litLen_any (s : ByteArray) (w : World) (h0 : 0 < s.size) (hs : s.size ≤ 1000000) : Calls Tryz.prog 153 #[.string s] w fun e w' => e = .returned (.int .i64 (liL s.data.toList : Nat)) ∧ w = w' := by
  have hd := drop_at s 0 h0
  rw [List.drop_zero] at hd
  obtain ⟨q, hq⟩ : ∃ q, s[0] = q := ⟨_, rfl⟩
  have hst : liP q 1 (s.data.toList.drop 1) = liL s.data.toList := by
    conv => rhs; rw [hd]
    rw [hq]
    rfl
  generalize liL s.data.toList = N at *
  have HST := Lib.hid hst
  have hq8 := q.toNat_lt
  clear hst hd
  go_enter Tryz.func153, Tryz.ntmps153
  go_wp2_with fail
  go_loop [3] (fun v => ∃ k : Nat, v = .int .i64 k ∧ k ≤ s.size + 1 ∧ liP q k (s.data.toList.drop k) = N) (fun v => s.size + 1 - (intOf v).toNat)
  case atStart => exact ⟨1, rfl, by omega, HST.out⟩
  case round =>
    obtain ⟨k, rfl, hk, hrel⟩ := hrel
    have hk0 : (0 : Int) ≤ (k : Int) := by omega
    by_cases hlt : k < s.size
    · have hlt' : (k : Int) < (s.size : Int) := by omega
      rw [drop_at s k hlt, liP_cons] at hrel
      generalize hx : s[k] = c at *
      have hc8 := c.toNat_lt
      by_cases h10 : c = 10
      · rw [if_pos h10] at hrel
        have e1 : ((c.toNat : Int) != 10) = false := by rw [h10]; rfl
        have HN := Lib.hid hrel
        clear hrel h10
        go_wp2_with fail
        go_ret
        exact ⟨ret_int (by have := HN.out; omega), rfl⟩
      · have e1 : ((c.toNat : Int) != 10) = true := by simp only [bne_iff_ne, ne_eq]; intro e; exact h10 (UInt8.toNat_inj.1 (by show c.toNat = 10; omega))
        rw [if_neg h10] at hrel
        by_cases hcq : c = q
        · rw [if_pos hcq] at hrel
          have e2 : ((c.toNat : Int) == (q.toNat : Int)) = true := by rw [hcq]; simp
          have HN := Lib.hid hrel
          clear hrel h10 hcq
          go_wp2_with fail
          go_ret
          exact ⟨ret_int (by have := HN.out; omega), rfl⟩
        · rw [if_neg hcq] at hrel
          have e2 : ((c.toNat : Int) == (q.toNat : Int)) = false := by simp only [beq_eq_false_iff_ne, ne_eq]; intro e; exact hcq (UInt8.toNat_inj.1 (by omega))
          by_cases h92 : c = 92
          · rw [if_pos h92, List.drop_drop] at hrel
            have e3 : ((c.toNat : Int) == 92) = true := by rw [h92]; rfl
            have HN := Lib.hid hrel
            clear hrel h10 hcq h92
            go_wp2_with fail
            go_round
            case rel => exact ⟨k + 2, by go_num, by omega, HN.out⟩
            case measure => simp [intOf]; omega
          · rw [if_neg h92] at hrel
            have e3 : ((c.toNat : Int) == 92) = false := by simp only [beq_eq_false_iff_ne, ne_eq]; intro e; exact h92 (UInt8.toNat_inj.1 (by show c.toNat = 92; omega))
            have HN := Lib.hid hrel
            clear hrel h10 hcq h92
            go_wp2_with fail
            go_round
            case rel => exact ⟨k + 1, by go_num, by omega, HN.out⟩
            case measure => simp [intOf]; omega
    · have hlt' : ¬ (k : Int) < (s.size : Int) := by omega
      rw [List.drop_eq_nil_of_le (by simp; omega), liP_nil] at hrel
      have HN := Lib.hid hrel
      clear hrel
      go_wp2_with fail
      go_ret
      exact ⟨ret_int (by have := HN.out; omega), rfl⟩

theorem Scn.set_ {w : World} {b p : Nat} {s : ByteArray} (h : Scn w b s p) (n : Nat) : Scn (w.setCell ⟨b, 1, none⟩ (.int .i64 n)) b s n := Blk.set_ h 1 (.int .i64 n)
theorem grow_set {w wr : World} {b i : Nat} (h : w.grownBy wr (some b)) (u : Value) : w.grownBy (wr.setCell ⟨b, i, none⟩ u) (some b) :=
  ⟨h.os, h.tape, h.output, by rw [World.size_setCell]; exact h.size, fun j hj hne => (Below.heap_setCell wr ⟨b, i, none⟩ u j (fun e => hne (by rw [e]))).trans (h.block j hj hne)⟩
theorem grow_drewN {w wr : World} {row : Option Nat} (h : w.grownBy wr row) (n : Nat) : w.grownBy (wr.drewN n) row := ⟨h.os, h.tape, h.output, h.size, h.block⟩
/-- What the scanner's pass answers and leaves. -/
def SkP (w : World) (b : Nat) (s : ByteArray) (P : Nat) (O : Bool) (e : Ending) (w' : World) : Prop := e = .returned (.int .i64 (if O then 0 else 30)) ∧ Scn w' b s P ∧ w.grownBy w' (some b)

set_option maxRecDepth 100000 in
set_option maxHeartbeats 1000000 in
theorem skip_any {w : World} {b p : Nat} {s : ByteArray} (m : Int) (h : Scn w b s p) (hp : p ≤ s.size) (hs : s.size ≤ 1000000) (hb0 : b ≠ 0) (hm : w.cell? ⟨0, 0, none⟩ = some (.int .i64 m)) :
    Calls Tryz.prog 45 #[.pointer (some ⟨b, 0, none⟩)] w (SkP w b s (p + (skL (s.data.toList.drop p)).1) (skL (s.data.toList.drop p)).2) := by
  obtain ⟨P, hP⟩ : ∃ P, p + (skL (s.data.toList.drop p)).1 = P := ⟨_, rfl⟩
  obtain ⟨O, hO⟩ : ∃ O, (skL (s.data.toList.drop p)).2 = O := ⟨_, rfl⟩
  rw [hP, hO]
  have hM : ∀ W, w.grownBy W (some b) → W.cell? ⟨0, 0, none⟩ = some (.int .i64 m) := fun W h => h.cell hm (by simp; omega)
  have HM := Lib.hid hM
  have HP := Lib.hid hP
  have HO := Lib.hid hO
  have HSC := Lib.hid h
  clear hP hO hM hm h
  go_enter Tryz.func45, Tryz.ntmps45
  go_wp2_with fail
  go_loopg [3] (s.size - p) (fun g v wr => ∃ p' : Nat, p' ≤ s.size ∧ g = s.size - p' ∧ Scn wr b s p' ∧ p' + (skL (s.data.toList.drop p')).1 = P ∧ (skL (s.data.toList.drop p')).2 = O ∧ w.grownBy wr (some b))
  case atStart => exact ⟨p, hp, rfl, HSC.out, HP.out, HO.out, World.grownBy.refl _ _⟩
  case round =>
    obtain ⟨p', hp', rfl, hsc, hP, hO, hg⟩ := hrel
    have HSC := Lib.hid hsc
    have HP := Lib.hid hP
    have HO := Lib.hid hO
    have HG := Lib.hid hg
    have c0 := hsc.c0
    have c1 := hsc.c1
    have p0 : (0 : Int) ≤ (p' : Int) := by omega
    clear hsc hP hO hg
    go_upto_region 1 with fail
    go_cut [14] (fun v wx => v = .bool (decide (p' < s.size)) ∧ Scn wx b s p' ∧ w.grownBy wx (some b))
    case first =>
      go_quiet (fail)
      go_wp2_with fail
      go_meet
      exact ⟨by first | rfl | simp, HSC.out, grow_drewN HG.out _⟩
    case rest =>
      obtain ⟨rfl, hsc, hg⟩ := hcut
      obtain ⟨w1, hw1⟩ : ∃ W, W = wc := ⟨_, rfl⟩
      subst hw1
      clear HSC HG c0 c1
      have HSC := Lib.hid hsc
      have HG := Lib.hid hg
      have c0 := hsc.c0
      have c1 := hsc.c1
      clear hsc hg
      by_cases hlt : p' < s.size
      · have hd : decide (p' < s.size) = true := decide_eq_true hlt
        rw [hd]
        have p1 : (p' : Int) ≤ (s.size : Int) := by omega
        obtain ⟨t, ht⟩ : ∃ t : ByteArray, s.extract p' s.size = t := ⟨_, rfl⟩
        have htl : t.data.toList = s.data.toList.drop p' := by rw [← ht]; exact Lib.extract_to_end s p'
        have hts : t.size = s.size - p' := by rw [← ht]; simp [ByteArray.size_extract]
        go_upto_region 2 with fail
        go_cut [3] (fun v wx => v = .string t ∧ Scn wx b s p' ∧ w.grownBy wx (some b))
        case first =>
          go_quiet (fail)
          go_wp2_with fail
          go_meet
          exact ⟨rfl, HSC.out, grow_drewN HG.out _⟩
        case rest =>
          obtain ⟨rfl, hsc, hg⟩ := hcut
          obtain ⟨w2, hw2⟩ : ∃ W, W = wc := ⟨_, rfl⟩
          subst hw2
          clear HSC HG c0 c1 ht hd
          have HSC := Lib.hid hsc
          have HG := Lib.hid hg
          have c0 := hsc.c0
          have c1 := hsc.c1
          have hfz : w2.frozen? ⟨b, 1, none⟩ = false := Blk.frozen hsc 1
          clear hsc hg
          have ht0 : 0 < t.size := by omega
          have hcons := drop_at t 0 ht0
          rw [List.drop_zero] at hcons
          generalize hx : t[0] = c at *
          obtain ⟨r, hr⟩ : ∃ r, t.data.toList.drop (0 + 1) = r := ⟨_, rfl⟩
          rw [hr] at hcons
          have hP := HP.out
          have hO := HO.out
          rw [← htl, hcons] at hP hO
          have hib := fun W => ibyte_any ⟨#[32, 9, 13, 10]⟩ c W
          have hbl := bl_index c
          have hpa := fun W => hpre_any t ⟨#[47, 47]⟩ W
          have hpb := fun W => hpre_any t ⟨#[47, 42]⟩ W
          rw [hcons] at hpa hpb
          have e1 : (⟨#[32, 9, 13, 10]⟩ : ByteArray).data.toList = [32, 9, 13, 10] := rfl
          rw [e1] at hib
          have e2 : (⟨#[47, 47]⟩ : ByteArray).data.toList = [47, 47] := rfl
          have e3 : (⟨#[47, 42]⟩ : ByteArray).data.toList = [47, 42] := rfl
          rw [e2] at hpa
          rw [e3] at hpb
          generalize Lib.indexByte [32, 9, 13, 10] c = x at *
          have HIB := Lib.hid hib
          have HPA := Lib.hid hpa
          have HPB := Lib.hid hpb
          have HCO := Lib.hid hcons
          have HTL := Lib.hid htl
          have HTS := Lib.hid hts
          have hrr : s.data.toList.drop p' = c :: r := by rw [← htl, hcons]
          have HRR := Lib.hid hrr
          clear hib hpa hpb hcons htl hts hr hrr e1 e2 e3
          cases hb : blB c
          · rw [hb] at hbl
            have hx0 : ¬ 0 ≤ x := by simpa using hbl
            clear hbl
            cases ha : Lib.hasPrefix (c :: r) [47, 47]
            · cases hc : Lib.hasPrefix (c :: r) [47, 42]
              · rw [skL_stop hb ha hc] at hP hO
                rw [ha] at HPA
                rw [hc] at HPB
                have HPN := Lib.hid hP
                have HON := Lib.hid hO
                clear hP hO ha hc hb
                go_wp2_with fail
                refine (HIB.out _).mono ?_
                rintro e _ ⟨rfl, rfl⟩
                go_wp2_with fail
                refine (HPA.out _).mono ?_
                rintro e _ ⟨rfl, rfl⟩
                go_wp2_with fail
                refine (HPB.out _).mono ?_
                rintro e _ ⟨rfl, rfl⟩
                go_wp2_with fail
                go_ret
                refine ⟨by rw [← HON.out]; rfl, ?_, HG.out⟩
                rw [← HPN.out]
                exact HSC.out
              · obtain ⟨r', hc1, hr1⟩ := pre_head hc
                have ht2 : 2 ≤ t.size := by
                  have h1 := HCO.out
                  have h2 : t.data.toList.length = t.size := by simp
                  rw [h1, hr1] at h2
                  simp only [List.length_cons] at h2
                  omega
                have ht2' : (2 : Int) ≤ (t.size : Int) := by omega
                obtain ⟨u, hu⟩ : ∃ u : ByteArray, t.extract 2 t.size = u := ⟨_, rfl⟩
                have hul : u.data.toList = (c :: r).drop 2 := by rw [← hu, Lib.extract_to_end t 2, HCO.out]
                have hus : u.size ≤ 1000000 := by have h3 := HTS.out; rw [← hu]; simp [ByteArray.size_extract]; omega
                have hix := fun W (hW : W.cell? ⟨0, 0, none⟩ = some (.int .i64 m)) => sindex_any u ⟨#[42, 47]⟩ m W hus hW
                have e4 : (⟨#[42, 47]⟩ : ByteArray).data.toList = [42, 47] := rfl
                rw [hul, e4] at hix
                have hge := Lib.index_ge ((c :: r).drop 2) [42, 47]
                rw [ha] at HPA
                rw [hc] at HPB
                by_cases hi : Lib.index ((c :: r).drop 2) [42, 47] < 0
                · rw [skL_open hb ha hc hi] at hP hO
                  have HPN := Lib.hid hP
                  have HON := Lib.hid hO
                  generalize Lib.index ((c :: r).drop 2) [42, 47] = y at *
                  have HIX := Lib.hid hix
                  clear hP hO ha hc hb hix hul hus e4 hge hr1 hc1
                  go_wp2_with fail
                  refine (HIB.out _).mono ?_
                  rintro e _ ⟨rfl, rfl⟩
                  go_wp2_with fail
                  refine (HPA.out _).mono ?_
                  rintro e _ ⟨rfl, rfl⟩
                  go_wp2_with fail
                  refine (HPB.out _).mono ?_
                  rintro e _ ⟨rfl, rfl⟩
                  go_wp2_with fail
                  refine (HIX.out _ (HM.out _ HG.out)).mono ?_
                  rintro e _ ⟨rfl, rfl⟩
                  go_wp2_with fail
                  go_ret
                  refine ⟨by rw [← HON.out]; rfl, ?_, HG.out⟩
                  rw [← HPN.out]
                  exact HSC.out
                · obtain ⟨y, hy⟩ := Int.eq_ofNat_of_zero_le (show 0 ≤ Lib.index ((c :: r).drop 2) [42, 47] by omega)
                  have hroom := remark_room hy
                  have hlen : (c :: r).length = s.size - p' := by rw [← HCO.out]; have := HTS.out; simpa using this
                  rw [skL_remark hb ha hc hy] at hP hO
                  rw [hy] at hix
                  have HPN := Lib.hid (show p' + (4 + y) + (skL (s.data.toList.drop (p' + (4 + y)))).1 = P by rw [← List.drop_drop, HRR.out]; simp only at hP ⊢; omega)
                  have HON := Lib.hid (show (skL (s.data.toList.drop (p' + (4 + y)))).2 = O by rw [← List.drop_drop, HRR.out]; exact hO)
                  have HIX := Lib.hid hix
                  have hroom2 : p' + (4 + y) ≤ s.size := by omega
                  clear hP hO ha hc hb hix hul hus e4 hge hr1 hc1 hi hy hroom hlen
                  go_wp2_with fail
                  refine (HIB.out _).mono ?_
                  rintro e _ ⟨rfl, rfl⟩
                  go_wp2_with fail
                  refine (HPA.out _).mono ?_
                  rintro e _ ⟨rfl, rfl⟩
                  go_wp2_with fail
                  refine (HPB.out _).mono ?_
                  rintro e _ ⟨rfl, rfl⟩
                  go_wp2_with fail
                  refine (HIX.out _ (HM.out _ HG.out)).mono ?_
                  rintro e _ ⟨rfl, rfl⟩
                  go_wp2_with fail
                  go_roundg (s.size - (p' + (4 + y)))
                  case measure => omega
                  case rel =>
                    have hcast : (p' : Int) + (2 + (y : Int) + 2) = ((p' + (4 + y) : Nat) : Int) := by omega
                    rw [hcast]
                    exact ⟨p' + (4 + y), hroom2, rfl, HSC.out.set_ (p' + (4 + y)), HPN.out, HON.out, grow_set HG.out _⟩
            · have hl2 := lnL_two ha
              have hll := lnL_le (c :: r)
              have hlen : (c :: r).length = s.size - p' := by rw [← HCO.out]; have := HTS.out; simpa using this
              have hln := fun W => lineLen_any t W
              rw [HCO.out] at hln
              rw [skL_line hb ha] at hP hO
              rw [ha] at HPA
              generalize lnL (c :: r) = N at *
              have HPN := Lib.hid (show p' + N + (skL (s.data.toList.drop (p' + N))).1 = P by rw [← List.drop_drop, HRR.out]; simp only at hP ⊢; omega)
              have HON := Lib.hid (show (skL (s.data.toList.drop (p' + N))).2 = O by rw [← List.drop_drop, HRR.out]; exact hO)
              have HLN := Lib.hid hln
              have e5 : IntKind.i64.wrap ((p' : Int) + (N : Int)) = (p' : Int) + (N : Int) := IntWalk.i64_in _ (by omega)
              have hroom2 : p' + N ≤ s.size := by omega
              clear hP hO ha hb hll hlen hln
              go_wp2_with fail
              refine (HIB.out _).mono ?_
              rintro e _ ⟨rfl, rfl⟩
              go_wp2_with fail
              refine (HPA.out _).mono ?_
              rintro e _ ⟨rfl, rfl⟩
              go_wp2_with fail
              go_region_with ((go_at_call 90; refine (HLN.out _).mono ?_; rintro e _ ⟨rfl, rfl⟩))
              all_goals
                go_wp2_with fail
                go_roundg (s.size - (p' + N))
                case measure => omega
                case rel =>
                  have hcast : (p' : Int) + (N : Int) = ((p' + N : Nat) : Int) := by omega
                  rw [hcast]
                  exact ⟨p' + N, hroom2, rfl, Scn.set_ (w := w2.drew) HSC.out (p' + N), HPN.out, HON.out, grow_set (wr := w2.drew) (grow_drewN HG.out 1) _⟩
          · rw [hb] at hbl
            have hx0 : 0 ≤ x := by simpa using hbl
            rw [skL_blank hb] at hP hO
            have HPN := Lib.hid (show p' + 1 + (skL (s.data.toList.drop (p' + 1))).1 = P by rw [← List.drop_drop, HRR.out]; simp only [List.drop_succ_cons, List.drop_zero] at hP ⊢; omega)
            have HON := Lib.hid (show (skL (s.data.toList.drop (p' + 1))).2 = O by rw [← List.drop_drop, HRR.out]; exact hO)
            clear hbl hP hO
            go_wp2_with fail
            refine (HIB.out _).mono ?_
            rintro e _ ⟨rfl, rfl⟩
            go_wp2_with fail
            go_roundg (s.size - (p' + 1))
            case measure => omega
            case rel => exact ⟨p' + 1, by omega, rfl, HSC.out.set_ (p' + 1), HPN.out, HON.out, grow_set HG.out _⟩
      · have hd : decide (p' < s.size) = false := decide_eq_false hlt
        rw [hd]
        have hP := HP.out
        have hO := HO.out
        rw [List.drop_eq_nil_of_le (by simp; omega), skL_nil] at hP hO
        have HPN := Lib.hid hP
        have HON := Lib.hid hO
        clear hP hO
        go_wp2_with fail
        go_ret
        refine ⟨by rw [← HON.out]; rfl, ?_, HG.out⟩
        rw [← HPN.out]
        exact HSC.out
end Go.Proofs.YtoineheocipmaaaGreatDoor
