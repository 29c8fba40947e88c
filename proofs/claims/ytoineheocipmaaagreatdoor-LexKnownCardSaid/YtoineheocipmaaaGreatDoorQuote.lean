/-
  Quote, and the document's Quote.
-/
import Derived.Test.YtoineheocipmaaaGreatDoorRune
namespace Go.Proofs.YtoineheocipmaaaGreatDoor
open Go.RowKit
set_option linter.unusedVariables false

/-- How a byte is spelt, by numbers. -/
def qpZ (c : Int) : List Int :=
  if c = 10 then [92, 110] else if c = 13 then [92, 114] else if c = 9 then [92, 116] else if c = 34 ∨ c = 92 then [92, c]
  else if c < 32 ∨ 126 < c then [92, 48 + c / 64, 48 + c / 8 % 8, 48 + c % 8] else [c]
def qp (c : UInt8) : List UInt8 := (qpZ c.toNat).map fun z => UInt8.ofNat z.toNat
theorem qpZ_byte (c : Int) (h0 : 0 ≤ c) (h1 : c < 256) : (∀ z ∈ qpZ c, 0 ≤ z ∧ z < 256) ∧ (qpZ c).length ≤ 4 := by
  unfold qpZ
  repeat' split
  all_goals
    refine ⟨?_, by simp⟩
    intro z hz
    simp at hz
    omega
theorem and7 : ∀ x : Fin 256, bits .and .u8 (x.val : Int) 7 = (x.val : Int) % 8 := by decide +kernel
theorem and7_any (c : Int) (h0 : 0 ≤ c) (h1 : c < 256) : bits .and .u8 c 7 = c % 8 := by
  obtain ⟨n, rfl⟩ := Int.eq_ofNat_of_zero_le h0
  exact and7 ⟨n, by omega⟩

def AppP (w : World) (base : Nat) (v : Value) (l : List UInt8) (e : Ending) (w' : World) : Prop := ∃ v', e = .returned v' ∧ Own w' base v' l ∧ Grew w w' v v'

/-- A part is joined. -/
theorem part_end {w w1 : World} {base : Nat} {v v1 : Value} {l : List UInt8} {zs : List Int} {c : Int} (hz : qpZ c = zs) (ho : Own w1 base v1 (l ++ zs.map fun z => UInt8.ofNat z.toNat)) {o : Obj} (hg : Grew (w.alloc o) w1 v v1) :
    AppP w base v (l ++ (qpZ c).map fun z => UInt8.ofNat z.toNat) (.returned v1) w1 := by
  rw [hz]
  exact ⟨_, rfl, ho, ((Grew.refl w v).alloc o).trans hg⟩

set_option maxRecDepth 100000 in
set_option maxHeartbeats 2000000 in
theorem appendPart_any {w : World} {base : Nat} {v : Value} {l : List UInt8} (c : Int) (h0 : 0 ≤ c) (h1 : c < 256) (ho : Own w base v l) (hl : l.length ≤ 1000000000) (hb : base ≤ w.heap.size) :
    Calls Tryz.prog 99 #[v, .int .u8 c] w (AppP w base v (l ++ (qpZ c).map fun z => UInt8.ofNat z.toNat)) := by
  obtain ⟨i0, hi0, hz0, hz1, hz2⟩ := info_parts Tryz.info5
  have hbz := (qpZ_byte c h0 h1).1
  have hq : qpZ c = if c = 10 then [92, 110] else if c = 13 then [92, 114] else if c = 9 then [92, 116] else if c = 34 ∨ c = 92 then [92, c]
    else if c < 32 ∨ 126 < c then [92, 48 + c / 64, 48 + c / 8 % 8, 48 + c % 8] else [c] := rfl
  obtain ⟨Z, hZ⟩ : ∃ Z, qpZ c = Z := ⟨_, rfl⟩
  rw [hZ] at hq hbz ⊢
  have hp := fun (v1 : Value) (w1 : World) (o : Obj) (h : Own w1 base v1 (l ++ Z.map fun z => UInt8.ofNat z.toNat)) (hg : Grew (w.alloc o) w1 v v1) => (show AppP w base v (l ++ Z.map fun z => UInt8.ofNat z.toNat) (.returned v1) w1 from ⟨_, rfl, h, ((Grew.refl w v).alloc o).trans hg⟩)
  have HP := Lib.hid hp
  have a1 := and7_any c h0 h1
  have a2 := and7_any (c / 8) (by omega) (by omega)
  clear hp hZ
  have hcase : (c = 10) ∨ (c = 13) ∨ (c = 9) ∨ (c = 34) ∨ (c = 92) ∨ (c < 32 ∧ c ≠ 10 ∧ c ≠ 13 ∧ c ≠ 9) ∨ 126 < c ∨ (32 ≤ c ∧ c ≤ 126 ∧ c ≠ 34 ∧ c ≠ 92) := by omega
  rcases hcase with rfl | rfl | rfl | rfl | rfl | ⟨h, n1, n2, n3⟩ | h | ⟨h, h', n1, n2⟩
  · have e : Z = [92, 110] := hq
    clear hq
    subst e
    have HBZ := Lib.hid hbz
    clear hbz a1 a2
    go_enter Tryz.func99, Tryz.ntmps99
    go_wp2_with (at_builtin; refine wpList_append_bs _ rfl _ _ 42 rfl i0 Tryz.underlying42 hi0 hz0 hz1 hz2 base _ _ rfl (ho.alloc _) _ _ _ _ _ _ rfl (Bs.ints w [92, 110] HBZ.out (by simp)) (by simp; omega) (by simp; omega) ?_; intro v2 w2 ho2 hg2)
    go_ret
    exact HP.out _ _ _ ho2 hg2
  · have e : Z = [92, 114] := hq
    clear hq
    subst e
    have HBZ := Lib.hid hbz
    clear hbz a1 a2
    go_enter Tryz.func99, Tryz.ntmps99
    go_wp2_with (at_builtin; refine wpList_append_bs _ rfl _ _ 42 rfl i0 Tryz.underlying42 hi0 hz0 hz1 hz2 base _ _ rfl (ho.alloc _) _ _ _ _ _ _ rfl (Bs.ints w [92, 114] HBZ.out (by simp)) (by simp; omega) (by simp; omega) ?_; intro v2 w2 ho2 hg2)
    go_ret
    exact HP.out _ _ _ ho2 hg2
  · have e : Z = [92, 116] := hq
    clear hq
    subst e
    have HBZ := Lib.hid hbz
    clear hbz a1 a2
    go_enter Tryz.func99, Tryz.ntmps99
    go_wp2_with (at_builtin; refine wpList_append_bs _ rfl _ _ 42 rfl i0 Tryz.underlying42 hi0 hz0 hz1 hz2 base _ _ rfl (ho.alloc _) _ _ _ _ _ _ rfl (Bs.ints w [92, 116] HBZ.out (by simp)) (by simp; omega) (by simp; omega) ?_; intro v2 w2 ho2 hg2)
    go_ret
    exact HP.out _ _ _ ho2 hg2
  · have e : Z = [92, 34] := hq
    clear hq
    subst e
    have HBZ := Lib.hid hbz
    clear hbz a1 a2
    go_enter Tryz.func99, Tryz.ntmps99
    go_wp2_with (at_builtin; refine wpList_append_bs _ rfl _ _ 42 rfl i0 Tryz.underlying42 hi0 hz0 hz1 hz2 base _ _ rfl (ho.alloc _) _ _ _ _ _ _ rfl (Bs.ints w [92, 34] HBZ.out (by simp)) (by simp; omega) (by simp; omega) ?_; intro v2 w2 ho2 hg2)
    go_ret
    exact HP.out _ _ _ ho2 hg2
  · have e : Z = [92, 92] := hq
    clear hq
    subst e
    have HBZ := Lib.hid hbz
    clear hbz a1 a2
    go_enter Tryz.func99, Tryz.ntmps99
    go_wp2_with (at_builtin; refine wpList_append_bs _ rfl _ _ 42 rfl i0 Tryz.underlying42 hi0 hz0 hz1 hz2 base _ _ rfl (ho.alloc _) _ _ _ _ _ _ rfl (Bs.ints w [92, 92] HBZ.out (by simp)) (by simp; omega) (by simp; omega) ?_; intro v2 w2 ho2 hg2)
    go_ret
    exact HP.out _ _ _ ho2 hg2
  · skip
    have e : Z = [92, 48 + c / 64, 48 + c / 8 % 8, 48 + c % 8] := by rw [hq]; rw [if_neg (by omega), if_neg (by omega), if_neg (by omega), if_neg (by omega), if_pos (by omega)]
    clear hq
    subst e
    have HBZ := Lib.hid hbz
    have t1 : (c == 10) = false := by simp; omega
    have t2 : (c == 13) = false := by simp; omega
    have t3 : (c == 9) = false := by simp; omega
    have t4 : (c == 34) = false := by simp; omega
    have t5 : (c == 92) = false := by simp; omega
    clear hbz
    go_enter Tryz.func99, Tryz.ntmps99
    go_wp2_with (at_builtin; refine wpList_append_bs _ rfl _ _ 42 rfl i0 Tryz.underlying42 hi0 hz0 hz1 hz2 base _ _ rfl (ho.alloc _) _ _ _ _ _ _ rfl (Bs.ints w [92, 48 + c / 64, 48 + c / 8 % 8, 48 + c % 8] HBZ.out (by simp)) (by simp; omega) (by simp; omega) ?_; intro v2 w2 ho2 hg2)
    go_ret
    exact HP.out _ _ _ ho2 hg2
  · have h2 : ¬ c < 32 := by omega
    have e : Z = [92, 48 + c / 64, 48 + c / 8 % 8, 48 + c % 8] := by rw [hq]; rw [if_neg (by omega), if_neg (by omega), if_neg (by omega), if_neg (by omega), if_pos (by omega)]
    clear hq
    subst e
    have HBZ := Lib.hid hbz
    have t1 : (c == 10) = false := by simp; omega
    have t2 : (c == 13) = false := by simp; omega
    have t3 : (c == 9) = false := by simp; omega
    have t4 : (c == 34) = false := by simp; omega
    have t5 : (c == 92) = false := by simp; omega
    clear hbz
    go_enter Tryz.func99, Tryz.ntmps99
    go_wp2_with (at_builtin; refine wpList_append_bs _ rfl _ _ 42 rfl i0 Tryz.underlying42 hi0 hz0 hz1 hz2 base _ _ rfl (ho.alloc _) _ _ _ _ _ _ rfl (Bs.ints w [92, 48 + c / 64, 48 + c / 8 % 8, 48 + c % 8] HBZ.out (by simp)) (by simp; omega) (by simp; omega) ?_; intro v2 w2 ho2 hg2)
    go_ret
    exact HP.out _ _ _ ho2 hg2
  · have h2 : ¬ c < 32 := by omega
    have h3 : ¬ 126 < c := by omega
    have e : Z = [c] := by rw [hq]; rw [if_neg (by omega), if_neg (by omega), if_neg (by omega), if_neg (by omega), if_neg (by omega)]
    clear hq
    subst e
    have HBZ := Lib.hid hbz
    have t1 : (c == 10) = false := by simp; omega
    have t2 : (c == 13) = false := by simp; omega
    have t3 : (c == 9) = false := by simp; omega
    have t4 : (c == 34) = false := by simp; omega
    have t5 : (c == 92) = false := by simp; omega
    clear hbz
    go_enter Tryz.func99, Tryz.ntmps99
    go_wp2_with (at_builtin; refine wpList_append_bs _ rfl _ _ 42 rfl i0 Tryz.underlying42 hi0 hz0 hz1 hz2 base _ _ rfl (ho.alloc _) _ _ _ _ _ _ rfl (Bs.ints w [c] HBZ.out (by simp)) (by simp; omega) (by simp; omega) ?_; intro v2 w2 ho2 hg2)
    go_ret
    exact HP.out _ _ _ ho2 hg2

/-- What quoted bytes are, between the quotes. -/
def qin (l : List UInt8) : List UInt8 := l.flatMap qp
def qtL (l : List UInt8) : List UInt8 := 34 :: (qin l ++ [34])
theorem qin_snoc (l : List UInt8) (c : UInt8) : qin (l ++ [c]) = qin l ++ qp c := by simp [qin]
theorem qin_len (l : List UInt8) : (qin l).length ≤ 4 * l.length := by
  induction l with
  | nil => simp [qin]
  | cons c l ih =>
    have := (qpZ_byte c.toNat (by omega) (by have := c.toNat_lt; omega)).2
    show (qp c ++ qin l).length ≤ _
    rw [List.length_append, List.length_cons]
    have e : (qp c).length = (qpZ c.toNat).length := by simp [qp]
    omega

structure QtR (w : World) (l : List UInt8) (v : Value) (i : Nat) (wr : World) : Prop where
  own : Own wr w.heap.size v (34 :: qin (l.take i))
  bel : Below w.heap.size w wr

set_option maxRecDepth 100000 in
set_option maxHeartbeats 1000000 in
theorem quote_any {w : World} {lo hi n c : Nat} {A : Option Addr} {l : List UInt8} (hB : Bs w lo hi A n c l) (hhi : hi ≤ w.heap.size) (hn : n ≤ 1000000) :
    Calls Tryz.prog 51 #[.slice A n c] w (StrP w (qtL l)) := by
  obtain ⟨i0, hi0, hz0, hz1, hz2⟩ := info_parts Tryz.info5
  have hll := hB.len
  have HLL := Lib.hid hll
  clear hll
  go_enter Tryz.func51, Tryz.ntmps51
  go_wp2_with (first
    | (at_make; refine wpList_make_own _ rfl _ _ 42 rfl w.heap.size 5 i0 (.int .u8 0) 1 Tryz.underlying42 hi0 hz0 hz1 .i64 .i64 _ (n + 2) rfl rfl (by omega) (by rw [hz2]; omega) (by unfold maxLen; omega) (Nat.le_refl _) ?_; intro w0 hown00 hgrow0; have hown0 : Own w0 w.heap.size (.slice (some ⟨w.heap.size, 0, none⟩) 0 (n + 2)) [] := hown00; clear hown00)
    | (at_builtin; refine wpList_append_bs _ rfl _ _ 42 rfl i0 Tryz.underlying42 hi0 hz0 hz1 hz2 w.heap.size _ [] rfl (hown0.alloc _) _ _ _ _ _ _ rfl (Bs.single _ _ (by omega) (by omega)) (by simp) (by have := hgrow0.size; simp; omega) ?_; intro v1 w1 hown1 hgrow1))
  have hb0 : Below w.heap.size w w0 := Below.grown (Below.refl _ _) hgrow0 (Nat.le_refl _) (fun _ h => by cases h)
  have hb1 : Below w.heap.size w w1 := (hb0.alloc hb0.size _).trans (hgrow1.below (by have := hb0.size; simp; omega) (fun g hg => (hown0.lt hg).1))
  have hst : QtR w l v1 0 w1 := ⟨hown1, hb1⟩
  clear hown0 hgrow0 hb0 hown1 hgrow1 hb1
  go_loopw [3, 15] (fun v j wr => ∃ i : Nat, j = .int .i64 i ∧ i ≤ n ∧ QtR w l v i wr) (fun _ j _ => n - (intOf j).toNat)
  case atStart => exact ⟨0, rfl, by omega, hst⟩
  case round =>
    obtain ⟨i, rfl, hin, hrel⟩ := hrel
    clear hst
    have hown := hrel.own
    have hbel := hrel.bel
    have hbz := hbel.size
    have hql : (34 :: qin (l.take i)).length ≤ 1000000000 := by
      have h1 := qin_len (l.take i)
      have h2 : (l.take i).length ≤ i := List.length_take_le _ _
      simp; omega
    by_cases hlt : i < n
    · obtain ⟨b, o, rfl, _, hbh, hc⟩ := (hB.below hbel hhi).at_ (by omega)
      have hcell := hc i (by have := HLL.out; omega)
      obtain ⟨x, hx⟩ : ∃ x, l[i]'(by have := HLL.out; omega) = x := ⟨_, rfl⟩
      rw [hx] at hcell
      have hxb := x.toNat_lt
      have hpt := appendPart_any (w := wr) (x.toNat : Int) (by omega) (by omega) hown hql hbz
      have HPT := Lib.hid hpt
      have HX := Lib.hid hx
      have hi0' : (0 : Int) ≤ (i : Int) := by omega
      have hi1' : (i : Int) < (n : Int) := by omega
      clear hpt hx hc
      go_wp2_with fail
      refine HPT.out.mono ?_
      rintro e w2 ⟨v2, rfl, ho2, hg2⟩
      go_wp2_with fail
      go_roundw
      case rel =>
        refine ⟨i + 1, by go_num, by omega, ?_, hbel.trans (hg2.below hbz (fun g hg => (hown.lt hg).1))⟩
        rw [List.take_succ_eq_append_getElem (by have := HLL.out; omega), HX.out, qin_snoc]
        exact ho2
      case measure => simp [intOf]; omega
    · have hlt' : ¬ (i : Int) < (n : Int) := by omega
      go_wp2_with (at_builtin; refine wpList_append_bs _ rfl _ _ 42 rfl i0 Tryz.underlying42 hi0 hz0 hz1 hz2 w.heap.size _ _ rfl (hown.alloc _) _ _ _ _ _ _ rfl (Bs.single _ 34 (by omega) (by omega)) (by omega) (by simp; omega) ?_; intro v2 w2 ho2 hg2; obtain ⟨A2, k2, c2, rfl⟩ := ho2.val; have hcv := ho2.toBs.convert (P := Tryz.prog) 42 5 9 Tryz.underlying42 Tryz.underlying5 Tryz.underlying9)
      go_ret
      refine ⟨?_, (hbel.alloc hbz _).trans (hg2.below (by simp; omega) (fun g hg => (hown.lt hg).1))⟩
      rw [List.take_of_length_le (by have := HLL.out; omega)]
      rfl
end Go.Proofs.YtoineheocipmaaaGreatDoor
