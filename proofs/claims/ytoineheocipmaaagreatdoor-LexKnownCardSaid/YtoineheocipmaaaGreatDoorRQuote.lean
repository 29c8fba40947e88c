/-
  The document's Quote.
-/
import Derived.Test.YtoineheocipmaaaGreatDoorQuote
namespace Go.Proofs.YtoineheocipmaaaGreatDoor
open Go.RowKit
set_option linter.unusedVariables false

theorem Own.one (w : World) (a : Int) (h0 : 0 ≤ a) (h1 : a < 256) : Own (w.alloc (.cells #[.int .u8 a] 5)) w.heap.size (.slice (some ⟨w.heap.size, 0, none⟩) 1 1) [UInt8.ofNat a.toNat] := by
  refine ⟨rfl, .inr ⟨w.heap.size, 1, #[.int .u8 a], rfl, Nat.le_refl _, heap_alloc_new w _, Nat.le_refl _, by unfold maxLen; omega, rfl, ?_⟩⟩
  simp [Lib.byteCells]
  omega
theorem rq_step {w wr w2 : World} {l : List UInt8} {v v2 : Value} {i : Nat} {x : UInt8} {Z : List Int} {o : Obj} (h : QtR w l v i wr) (hi : i < l.length) (hx : l[i] = x) (hz : qpZ (x.toNat : Nat) = Z) (ho : Own w2 w.heap.size v2 ((34 :: qin (l.take i)) ++ Z.map fun z => UInt8.ofNat z.toNat)) (hg : Grew (wr.alloc o) w2 v v2) : QtR w l v2 (i + 1) w2 := by
  have hb := h.bel
  refine ⟨?_, (hb.alloc hb.size _).trans (hg.below (by have := hb.size; simp; omega) (fun g e => (h.own.lt e).1))⟩
  rw [List.take_succ_eq_append_getElem hi, hx, qin_snoc]
  unfold qp
  rw [hz]; exact ho

set_option maxRecDepth 100000 in
set_option maxHeartbeats 2000000 in
theorem rquote_any {w : World} {lo hi n c : Nat} {A : Option Addr} {l : List UInt8} (hB : Bs w lo hi A n c l) (hhi : hi ≤ w.heap.size) (hn : n ≤ 1000000) :
    Calls Tryz.prog 102 #[.slice A n c] w (StrP w (qtL l)) := by
  obtain ⟨i0, hi0, hz0, hz1, hz2⟩ := info_parts Tryz.info5
  have hll := hB.len
  have HLL := Lib.hid hll
  have hst : QtR w l (.slice (some ⟨w.heap.size, 0, none⟩) 1 1) 0 (w.alloc (.cells #[.int .u8 34] 5)) := ⟨Own.one w 34 (by omega) (by omega), (Below.refl _ _).alloc (Nat.le_refl _) _⟩
  clear hll
  go_enter Tryz.func102, Tryz.ntmps102
  go_wp2_with fail
  go_loopw [3, 4] (fun v j wr => ∃ i : Nat, j = .int .i64 i ∧ i ≤ n ∧ QtR w l v i wr) (fun _ j _ => n - (intOf j).toNat)
  case atStart => exact ⟨0, rfl, by omega, hst⟩
  case round =>
    obtain ⟨i, rfl, hin, hrel⟩ := hrel
    clear hst
    have hown := hrel.own
    have hbel := hrel.bel
    have hbz0 := hbel.size
    have HREL := Lib.hid hrel
    have hql : (34 :: qin (l.take i)).length ≤ 1000000000 := by
      have h1 := qin_len (l.take i)
      have h2 : (l.take i).length ≤ i := List.length_take_le _ _
      simp; omega
    have hql2 : (qin (l.take i)).length + 1 ≤ 1000000000 := hql
    clear hrel
    by_cases hlt : i < n
    · obtain ⟨b, o, rfl, _, hbh, hc⟩ := (hB.below hbel hhi).at_ (by omega)
      have hcell := hc i (by have := HLL.out; omega)
      obtain ⟨x, hx⟩ : ∃ x, l[i]'(by have := HLL.out; omega) = x := ⟨_, rfl⟩
      rw [hx] at hcell
      have hxb := x.toNat_lt
      have hbz := (qpZ_byte (x.toNat : Nat) (by omega) (by omega)).1
      obtain ⟨Z, hZ⟩ : ∃ Z, qpZ (x.toNat : Nat) = Z := ⟨_, rfl⟩
      have hq : Z = if (x.toNat : Int) = 10 then [92, 110] else if (x.toNat : Int) = 13 then [92, 114] else if (x.toNat : Int) = 9 then [92, 116] else if (x.toNat : Int) = 34 ∨ (x.toNat : Int) = 92 then [92, (x.toNat : Int)]
        else if (x.toNat : Int) < 32 ∨ 126 < (x.toNat : Int) then [92, 48 + (x.toNat : Int) / 64, 48 + (x.toNat : Int) / 8 % 8, 48 + (x.toNat : Int) % 8] else [(x.toNat : Int)] := by rw [← hZ]; rfl
      rw [hZ] at hbz
      have HX := Lib.hid hx
      have HZ := Lib.hid hZ
      have hi0' : (0 : Int) ≤ (i : Int) := by omega
      have hi1' : (i : Int) < (n : Int) := by omega
      clear hx hZ hc
      obtain ⟨c, hcc⟩ : ∃ c : Int, ((x.toNat : Nat) : Int) = c := ⟨_, rfl⟩
      rw [hcc] at hq hcell
      have hc0 : 0 ≤ c := by omega
      have hc1 : c < 256 := by omega
      have t1 : (c == 10) = decide (c = 10) := rfl
      clear hcc t1
      have hcase : (c = 10) ∨ (c = 13) ∨ (c = 9) ∨ (c = 34) ∨ (c = 92) ∨ (c < 32 ∧ c ≠ 10 ∧ c ≠ 13 ∧ c ≠ 9) ∨ 126 < c ∨ (32 ≤ c ∧ c ≤ 126 ∧ c ≠ 34 ∧ c ≠ 92) := by omega
      rcases hcase with rfl | rfl | rfl | rfl | rfl | ⟨h, n1, n2, n3⟩ | h | ⟨h, h', n1, n2⟩
      · skip
        have e : Z = [92, 110] := by rw [hq]; rfl
        clear hq
        subst e
        have HBZ := Lib.hid hbz
        clear hbz
        go_wp2_with (at_builtin; refine wpList_append_bs _ rfl _ _ 42 rfl i0 Tryz.underlying42 hi0 hz0 hz1 hz2 w.heap.size _ _ rfl (hown.alloc _) _ _ _ _ _ _ rfl (Bs.ints wr [92, 110] HBZ.out (by simp)) (by simp <;> omega) (by simp <;> omega) ?_; intro v2 w2 ho2 hg2)
        go_roundw
        case rel => exact ⟨i + 1, by go_num, by omega, rq_step HREL.out (by have := HLL.out; omega) HX.out HZ.out ho2 hg2⟩
        case measure => simp [intOf]; omega
      · skip
        have e : Z = [92, 114] := by rw [hq]; rfl
        clear hq
        subst e
        have HBZ := Lib.hid hbz
        clear hbz
        go_wp2_with (at_builtin; refine wpList_append_bs _ rfl _ _ 42 rfl i0 Tryz.underlying42 hi0 hz0 hz1 hz2 w.heap.size _ _ rfl (hown.alloc _) _ _ _ _ _ _ rfl (Bs.ints wr [92, 114] HBZ.out (by simp)) (by simp <;> omega) (by simp <;> omega) ?_; intro v2 w2 ho2 hg2)
        go_roundw
        case rel => exact ⟨i + 1, by go_num, by omega, rq_step HREL.out (by have := HLL.out; omega) HX.out HZ.out ho2 hg2⟩
        case measure => simp [intOf]; omega
      · skip
        have e : Z = [92, 116] := by rw [hq]; rfl
        clear hq
        subst e
        have HBZ := Lib.hid hbz
        clear hbz
        go_wp2_with (at_builtin; refine wpList_append_bs _ rfl _ _ 42 rfl i0 Tryz.underlying42 hi0 hz0 hz1 hz2 w.heap.size _ _ rfl (hown.alloc _) _ _ _ _ _ _ rfl (Bs.ints wr [92, 116] HBZ.out (by simp)) (by simp <;> omega) (by simp <;> omega) ?_; intro v2 w2 ho2 hg2)
        go_roundw
        case rel => exact ⟨i + 1, by go_num, by omega, rq_step HREL.out (by have := HLL.out; omega) HX.out HZ.out ho2 hg2⟩
        case measure => simp [intOf]; omega
      · skip
        have e : Z = [92, 34] := by rw [hq]; rfl
        clear hq
        subst e
        have HBZ := Lib.hid hbz
        clear hbz
        go_wp2_with (at_builtin; refine wpList_append_bs _ rfl _ _ 42 rfl i0 Tryz.underlying42 hi0 hz0 hz1 hz2 w.heap.size _ _ rfl (hown.alloc _) _ _ _ _ _ _ rfl (Bs.ints wr [92, 34] HBZ.out (by simp)) (by simp <;> omega) (by simp <;> omega) ?_; intro v2 w2 ho2 hg2)
        go_roundw
        case rel => exact ⟨i + 1, by go_num, by omega, rq_step HREL.out (by have := HLL.out; omega) HX.out HZ.out ho2 hg2⟩
        case measure => simp [intOf]; omega
      · skip
        have e : Z = [92, 92] := by rw [hq]; rfl
        clear hq
        subst e
        have HBZ := Lib.hid hbz
        clear hbz
        go_wp2_with (at_builtin; refine wpList_append_bs _ rfl _ _ 42 rfl i0 Tryz.underlying42 hi0 hz0 hz1 hz2 w.heap.size _ _ rfl (hown.alloc _) _ _ _ _ _ _ rfl (Bs.ints wr [92, 92] HBZ.out (by simp)) (by simp <;> omega) (by simp <;> omega) ?_; intro v2 w2 ho2 hg2)
        go_roundw
        case rel => exact ⟨i + 1, by go_num, by omega, rq_step HREL.out (by have := HLL.out; omega) HX.out HZ.out ho2 hg2⟩
        case measure => simp [intOf]; omega
      · have t1 : (c == 10) = false := by simp; omega
        have t2 : (c == 13) = false := by simp; omega
        have t3 : (c == 9) = false := by simp; omega
        have t4 : (c == 34) = false := by simp; omega
        have t5 : (c == 92) = false := by simp; omega
        have e : Z = [92, 48 + c / 64, 48 + c / 8 % 8, 48 + c % 8] := by rw [hq]; rw [if_neg (by omega), if_neg (by omega), if_neg (by omega), if_neg (by omega), if_pos (by omega)]
        clear hq
        subst e
        have HBZ := Lib.hid hbz
        clear hbz
        go_wp2_with (at_builtin; refine wpList_append_bs _ rfl _ _ 42 rfl i0 Tryz.underlying42 hi0 hz0 hz1 hz2 w.heap.size _ _ rfl (hown.alloc _) _ _ _ _ _ _ rfl (Bs.ints wr [92, 48 + c / 64, 48 + c / 8 % 8, 48 + c % 8] HBZ.out (by simp)) (by simp <;> omega) (by simp <;> omega) ?_; intro v2 w2 ho2 hg2)
        go_roundw
        case rel => exact ⟨i + 1, by go_num, by omega, rq_step HREL.out (by have := HLL.out; omega) HX.out HZ.out ho2 hg2⟩
        case measure => simp [intOf]; omega
      · have h2 : ¬ c < 32 := by omega
        have t1 : (c == 10) = false := by simp; omega
        have t2 : (c == 13) = false := by simp; omega
        have t3 : (c == 9) = false := by simp; omega
        have t4 : (c == 34) = false := by simp; omega
        have t5 : (c == 92) = false := by simp; omega
        have e : Z = [92, 48 + c / 64, 48 + c / 8 % 8, 48 + c % 8] := by rw [hq]; rw [if_neg (by omega), if_neg (by omega), if_neg (by omega), if_neg (by omega), if_pos (by omega)]
        clear hq
        subst e
        have HBZ := Lib.hid hbz
        clear hbz
        go_wp2_with (at_builtin; refine wpList_append_bs _ rfl _ _ 42 rfl i0 Tryz.underlying42 hi0 hz0 hz1 hz2 w.heap.size _ _ rfl (hown.alloc _) _ _ _ _ _ _ rfl (Bs.ints wr [92, 48 + c / 64, 48 + c / 8 % 8, 48 + c % 8] HBZ.out (by simp)) (by simp <;> omega) (by simp <;> omega) ?_; intro v2 w2 ho2 hg2)
        go_roundw
        case rel => exact ⟨i + 1, by go_num, by omega, rq_step HREL.out (by have := HLL.out; omega) HX.out HZ.out ho2 hg2⟩
        case measure => simp [intOf]; omega
      · have h2 : ¬ c < 32 := by omega
        have h3 : ¬ 126 < c := by omega
        have t1 : (c == 10) = false := by simp; omega
        have t2 : (c == 13) = false := by simp; omega
        have t3 : (c == 9) = false := by simp; omega
        have t4 : (c == 34) = false := by simp; omega
        have t5 : (c == 92) = false := by simp; omega
        have e : Z = [c] := by rw [hq]; rw [if_neg (by omega), if_neg (by omega), if_neg (by omega), if_neg (by omega), if_neg (by omega)]
        clear hq
        subst e
        have HBZ := Lib.hid hbz
        clear hbz
        go_wp2_with (at_builtin; refine wpList_append_bs _ rfl _ _ 42 rfl i0 Tryz.underlying42 hi0 hz0 hz1 hz2 w.heap.size _ _ rfl (hown.alloc _) _ _ _ _ _ _ rfl (Bs.ints wr [c] HBZ.out (by simp)) (by simp <;> omega) (by simp <;> omega) ?_; intro v2 w2 ho2 hg2)
        go_roundw
        case rel => exact ⟨i + 1, by go_num, by omega, rq_step HREL.out (by have := HLL.out; omega) HX.out HZ.out ho2 hg2⟩
        case measure => simp [intOf]; omega
    · have hlt' : ¬ (i : Int) < (n : Int) := by omega
      go_wp2_with (at_builtin; refine wpList_append_bs _ rfl _ _ 42 rfl i0 Tryz.underlying42 hi0 hz0 hz1 hz2 w.heap.size _ _ rfl (hown.alloc _) _ _ _ _ _ _ rfl (Bs.single _ 34 (by omega) (by omega)) (by omega) (by simp <;> omega) ?_; intro v2 w2 ho2 hg2; obtain ⟨A2, k2, c2, rfl⟩ := ho2.val; have hcv := ho2.toBs.convert (P := Tryz.prog) 42 5 9 Tryz.underlying42 Tryz.underlying5 Tryz.underlying9)
      go_ret
      refine ⟨?_, (hbel.alloc hbz0 _).trans (hg2.below (by simp; omega) (fun g hg => (hown.lt hg).1))⟩
      rw [List.take_of_length_le (by have := HLL.out; omega)]
      rfl
end Go.Proofs.YtoineheocipmaaaGreatDoor
