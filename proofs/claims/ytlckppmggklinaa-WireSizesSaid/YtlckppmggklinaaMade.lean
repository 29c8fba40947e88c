/-
  Bring, longer.
-/
import Derived.Test.YtlckppmggklinaaLonger
import Derived.Test.YtlckppmggklinaaRBytes
namespace Go.Proofs.Ytlckppmggklinaa
open Go.RowKit
open Go.Lib (byteCells byteCells_length byteCells_append)
set_option linter.unusedVariables false
attribute [local go_sem ↓] Go.wp_at_zero Go.wp_at_succ

/-- Bring. -/
def brg (i : Int) (n : Nat) : Nat := (if i.tmod n < 0 then i.tmod n + n else i.tmod n).toNat
theorem brg_lt (i : Int) (n : Nat) (h : 0 < n) : brg i n < n := by
  unfold brg
  have h1 := Int.tmod_lt_of_pos i (show (0 : Int) < n by omega)
  split <;> omega
theorem brg_eq (i : Int) (n : Nat) (h : 0 < n) : (if i.tmod n < 0 then i.tmod n + n else i.tmod n) = (brg i n : Int) := by
  unfold brg
  have h1 := Int.lt_tmod_of_pos i (show (0 : Int) < n by omega)
  split <;> omega
set_option maxRecDepth 100000 in
theorem bring_any (i : Int) (n : Nat) (w : World) (h : 0 < n) (h2 : n ≤ 1073741824) :
    Calls Try.prog 40 #[.int .i64 i, .int .i64 n] w fun e w' => e = .returned (.int .i64 (brg i n : Nat)) ∧ w = w' := by
  have h1 := Int.tmod_lt_of_pos i (show (0 : Int) < n by omega)
  have h3 := Int.lt_tmod_of_pos i (show (0 : Int) < n by omega)
  have e := brg_eq i n h
  have hn0 : ((n : Int) == 0) = false := by simp; omega
  have hw : IntKind.i64.wrap (i.tmod n) = i.tmod n := by rw [IntKind.wrap_i64]; omega
  have hw2 : wrap64 (i.tmod n) = i.tmod n := IntWalk.wrap64_in _ ⟨by omega, by omega⟩
  generalize brg i n = B at *
  have HE := Lib.hid e
  clear e
  by_cases hneg : i.tmod n < 0
  · go_enter Try.func40, Try.ntmps40
    go_wp2
    go_ret
    have := HE.out
    rw [if_pos hneg] at this
    exact ⟨ret_int (by simpa using this), rfl⟩
  · go_enter Try.func40, Try.ntmps40
    go_wp2
    go_ret
    have := HE.out
    rw [if_neg (by omega)] at this
    exact ⟨ret_int (by simpa using this), rfl⟩

theorem u8_or (x : UInt8) : bits .or .u8 (x.toNat : Int) 128 = (((x ||| 128).toNat : Nat) : Int) := by
  have hx := x.toNat_lt
  rw [Lib.u8_or128_any _ (by omega) (by omega), UInt8.toNat_or]
  have : ∀ y : Fin 256, (y.val % 128 + 128) = (y.val ||| 128) := by decide +kernel
  have h := this ⟨x.toNat, hx⟩
  simp only at h
  show ((x.toNat : Int) % 128 + 128) = ((x.toNat ||| 128 : Nat) : Int)
  omega

/-- The last byte of one's own bytes: it may be written. -/
theorem Own.last {w : World} {base k c : Nat} {A : Option Addr} {l : List UInt8} (h : Own w base (.slice A k c) l) (hl : l ≠ []) :
    ∃ g, A = some ⟨g, 0, none⟩ ∧ base ≤ g ∧ w.cell? ⟨g, k - 1, none⟩ = some (.int .u8 ((l.getLastD 0).toNat : Int)) ∧ w.frozen? ⟨g, k - 1, none⟩ = false ∧
      ∀ y : UInt8, Own (w.setCell ⟨g, k - 1, none⟩ (.int .u8 (y.toNat : Int))) base (.slice A k c) (l.dropLast ++ [y]) := by
  have hpos := List.length_pos_iff.2 hl
  have hk := h.toBs.len
  rcases h.2 with ⟨_, h0⟩ | ⟨g, cap, cur, e, hb, hh, r⟩
  · omega
  · have hrow : w.ownsRow base 5 1 (.slice (some ⟨g, 0, none⟩) l.length c) l.length (byteCells l) := by
      have := h; rw [e] at this
      unfold Own at this
      injection e with e1 e2 e3
      rw [e3]; exact this
    injection e with e1 e2 e3
    subst e1
    refine ⟨g, rfl, hb, ?_, by simp [World.frozen?, hh], fun y => ?_⟩
    · obtain ⟨b, o, e, _, _, hc⟩ := h.toBs.at_ (by omega)
      injection e with e; injection e with e1 e2 _; subst e1; subst e2
      have := hc (k - 1) (by omega)
      rw [Nat.zero_add] at this
      rw [this]
      simp only [Option.some.injEq, Value.int.injEq, true_and]
      rw [List.getLastD_eq_getLast?, List.getLast?_eq_getElem?, List.getElem?_eq_getElem (by omega)]
      simp only [Option.getD_some]
      congr 2
      · congr 1; omega
    · have h2 := (hrow.stored (k - 1) (.int .u8 (y.toNat : Int))).1
      unfold Own
      have e4 : (l.dropLast ++ [y]).length = l.length := by simp; omega
      rw [e4]
      have e5 : byteCells (l.dropLast ++ [y]) = (byteCells l).set (k - 1) (.int .u8 (y.toNat : Int)) := by
        obtain ⟨l', z, rfl⟩ : ∃ l' z, l = l' ++ [z] := ⟨l.dropLast, l.getLast hl, (List.dropLast_concat_getLast hl).symm⟩
        simp only [List.dropLast_concat]
        have : k - 1 = l'.length := by simp at hk; omega
        rw [this]
        simp [Go.Lib.byteCells]
      rw [e5, ← hk]
      rw [hk] at h2 ⊢
      exact h2

structure LgRel (w : World) (L : List UInt8) (m : Nat) (v : Value) (i : Nat) (l : List UInt8) (wr : World) : Prop where
  own : Own wr w.heap.size v l
  fin : lng (m - i) l = L
  ne : l ≠ []
  few : l.length ≤ 10
  bel : Below w.heap.size w wr

theorem lg_end {w wr : World} {L l : List UInt8} {m i : Nat} {v : Value} (h : LgRel w L m v i l wr) (hd : ¬ i < m ∨ ¬ l.length < 10) : Fresh w L (.returned v) wr := by
  have hf := h.fin
  have e : l = L := by
    rcases hd with hd | hd
    · rw [show m - i = 0 by omega] at hf; exact hf
    · cases hmi : m - i with
      | zero => rw [hmi] at hf; exact hf
      | succ q => rw [hmi, lng, if_neg hd] at hf; exact hf
  subst e
  exact ⟨_, rfl, h.own, h.bel⟩

set_option maxRecDepth 100000 in
set_option maxHeartbeats 1000000 in
theorem longer_any (n m : Nat) (w : World) (hn : (n : Int) ≤ 18446744073709551615) (hm : m ≤ 100) :
    Calls Try.prog 51 #[.int .u64 n, .int .i64 m] w (Fresh w (lng m (Lib.uvarint n))) := by
  obtain ⟨i0, hi0, hz0, hz1, hz2⟩ := info_parts Try.info5
  have hv := var_any (w := w) (n : Int) (by omega) hn (Bs.none_ w 0 w.heap.size none (c := 0) (by unfold maxLen; omega)) (Nat.le_refl _) (by simp)
  rw [Int.toNat_natCast, List.nil_append] at hv
  have hne := uvarint_ne n
  have hul := Lib.uvarint_length64 (x := n) (by omega)
  obtain ⟨L, hL⟩ : ∃ L, L = lng m (Lib.uvarint n) := ⟨_, rfl⟩
  rw [← hL]
  generalize Lib.uvarint n = U at *
  have HV := Lib.hid hv
  have HL := Lib.hid hL
  have HNE := Lib.hid hne
  clear hv hL hne
  go_enter Try.func51, Try.ntmps51
  go_wp2_with fail
  refine HV.out.mono ?_
  rintro e w1 ⟨v1, rfl, ho1, hb1⟩
  have hst : LgRel w L m v1 0 U w1 := ⟨ho1, HL.out.symm, HNE.out, hul, hb1⟩
  clear ho1 hb1 HV
  go_wp2_with fail
  go_loopw [5, 6] (fun v j wr => ∃ (i : Nat) (l : List UInt8), j = .int .i64 i ∧ i ≤ m ∧ LgRel w L m v i l wr) (fun _ j _ => m - (intOf j).toNat)
  case atStart => exact ⟨0, U, rfl, by omega, hst⟩
  case round =>
    obtain ⟨i, l, rfl, him, hrel⟩ := hrel
    clear hst
    have hown := hrel.own
    have hfew := hrel.few
    have hbel := hrel.bel
    obtain ⟨A, k, c, rfl⟩ := hown.val
    have hk := hown.toBs.len
    have hpos := List.length_pos_iff.2 hrel.ne
    have hwz := hbel.size
    have HREL := Lib.hid hrel
    by_cases hlt : i < m
    · have hlt' : (i : Int) < (m : Int) := by omega
      have hk0 : (0 : Int) < (k : Int) := by omega
      by_cases h10 : k < 10
      · have h10' : (k : Int) < 10 := by omega
        obtain ⟨g, rfl, hgb, hcell, hfr, hset⟩ := hown.last hrel.ne
        have hor := u8_or (l.getLastD 0)
        have hown2 := hset (l.getLastD 0 ||| 128)
        have hb2 := hbel.setCell (p := ⟨g, k - 1, none⟩) hgb (.int .u8 (((l.getLastD 0 ||| 128).toNat : Nat) : Int))
        have hs2 : (wr.setCell ⟨g, k - 1, none⟩ (.int .u8 (((l.getLastD 0 ||| 128).toNat : Nat) : Int))).heap.size = wr.heap.size := by simp
        have hlen2 : (l.dropLast ++ [l.getLastD 0 ||| 128]).length ≤ 10 := by simp; omega
        have HK := Lib.hid hk
        have hk1 : (1 : Int) ≤ (k : Int) := by omega
        have hkN : 0 < k := by omega
        have hk2 : (0 : Int) ≤ (k : Int) - 1 := by omega
        have hk3 : (k : Int) - 1 < (k : Int) := by omega
        clear hrel hown hset hk
        generalize (l.getLastD 0).toNat = x at *
        generalize hy : ((l.getLastD 0 ||| 128).toNat : Int) = y at *
        have hsing : Bs ((wr.setCell ⟨g, k - 1, none⟩ (.int .u8 y)).alloc (.cells #[.int .u8 0] 5)) wr.heap.size (wr.heap.size + 1) (some ⟨wr.heap.size, 0, none⟩) 1 1 [0] := by
          have := Bs.single (wr.setCell ⟨g, k - 1, none⟩ (.int .u8 y)) 0 (by omega) (by omega)
          rw [hs2] at this
          exact this
        have hsz2 : w.heap.size ≤ ((wr.setCell ⟨g, k - 1, none⟩ (.int .u8 y)).alloc (.cells #[.int .u8 0] 5)).heap.size := by simp; omega
        have HOR := Lib.hid hy
        clear hs2 hy
        go_wp2_with (at_builtin; refine wpList_append_bs _ rfl _ _ 22 rfl i0 Try.underlying22 hi0 hz0 hz1 hz2 w.heap.size _ _ rfl (hown2.alloc _) _ _ _ _ _ _ rfl hsing (by omega) hsz2 ?_; intro v1 w2 hown3 hgrow3)
        go_roundw
        case rel =>
          have hr := HREL.out
          have hf := hr.fin
          rw [show m - i = (m - (i + 1)) + 1 by omega, lng, if_pos (by have := HK.out; omega)] at hf
          refine ⟨i + 1, more1 l, by go_num, by omega, ⟨?_, hf, ?_, ?_, ?_⟩⟩
          · have e : more1 l = (l.dropLast ++ [l.getLastD 0 ||| 128]) ++ [0] := by simp [more1]
            rw [e]; exact hown3
          · simp [more1]
          · rw [more1_length l hr.ne]; have := HK.out; omega
          · exact (hb2.alloc (by simp; omega) _).trans (hgrow3.below hsz2 (fun q hq => (hown2.lt hq).1))
        case measure => simp [intOf]; omega
      · have h10' : ¬ (k : Int) < 10 := by omega
        clear hrel hown
        go_wp2
        go_ret
        exact lg_end HREL.out (.inr (by omega))
    · have hlt' : ¬ (i : Int) < (m : Int) := by omega
      clear hrel hown
      go_wp2
      go_ret
      exact lg_end HREL.out (.inl hlt)
end Go.Proofs.Ytlckppmggklinaa
