/-
  Numbers brought to be runes; TextBack, walked.
-/
import Derived.Test.YtjophmgpknpboaaDoorWorks
import Derived.Test.YtjophmgpknpboaaDoorUtfBack
namespace Go.Proofs.YtjophmgpknpboaaDoor
open Go.RowKit
set_option linter.unusedVariables false
set_option linter.unusedSimpArgs false

/-- Bring. -/
def brg (i : Int) (n : Nat) : Nat := (if i.tmod n < 0 then i.tmod n + n else i.tmod n).toNat
theorem brg_lt (i : Int) (n : Nat) (h : 0 < n) : brg i n < n := by
  unfold brg
  have h1 := Int.tmod_lt_of_pos i (show (0 : Int) < n by omega)
  split <;> omega
theorem brg_eq (i : Int) (n : Nat) (h : 0 < n) : (if i.tmod n < 0 then i.tmod n + n else i.tmod n) = (brg i n : Int) := by
  unfold brg
  have h1 := Int.lt_tmod_of_pos i (show (0 : Int) < n by omega)
  split <;> omega
set_option maxRecDepth 100000 in
theorem bring_any (i : Int) (n : Nat) (w : World) (h : 0 < n) (h2 : n ≤ 1073741824) :
    Calls Tryd.prog 33 #[.int .i64 i, .int .i64 n] w fun e w' => e = .returned (.int .i64 (brg i n : Nat)) ∧ w = w' := by
  have h1 := Int.tmod_lt_of_pos i (show (0 : Int) < n by omega)
  have h3 := Int.lt_tmod_of_pos i (show (0 : Int) < n by omega)
  have e := brg_eq i n h
  have hn0 : ((n : Int) == 0) = false := by simp; omega
  have hw : IntKind.i64.wrap (i.tmod n) = i.tmod n := by rw [IntKind.wrap_i64]; omega
  have hw2 : wrap64 (i.tmod n) = i.tmod n := IntWalk.wrap64_in _ ⟨by omega, by omega⟩
  generalize brg i n = B at *
  have HE := Lib.hid e
  clear e
  by_cases hneg : i.tmod n < 0
  · go_enter Tryd.func33, Tryd.ntmps33
    go_wp2
    go_ret
    have := HE.out
    rw [if_pos hneg] at this
    exact ⟨ret_int (by simpa using this), rfl⟩
  · go_enter Tryd.func33, Tryd.ntmps33
    go_wp2
    go_ret
    have := HE.out
    rw [if_neg (by omega)] at this
    exact ⟨ret_int (by simpa using this), rfl⟩


/-- A number, brought to be a rune. -/
def rof (i : Int) : Int := if 55296 ≤ brg i 1112064 then (brg i 1112064 : Int) + 2048 else brg i 1112064
theorem rof_rn (i : Int) : rnB (rof i) = true := by
  have := brg_lt i 1112064 (by omega)
  unfold rnB rof
  simp only [decide_eq_true_eq]
  split <;> omega
set_option maxRecDepth 100000 in
theorem runeOf_any (i : Int) (w : World) : Calls Tryd.prog 32 #[.int .i64 i] w fun e w' => e = .returned (.int .i64 (rof i)) ∧ w = w' := by
  obtain ⟨z, hb, hr, h0, h1⟩ : ∃ z : Int, (∀ W, Calls Tryd.prog 33 #[.int .i64 i, .int .i64 1112064] W fun e w' => e = .returned (.int .i64 z) ∧ W = w') ∧ (rof i = if 55296 ≤ z then z + 2048 else z) ∧ 0 ≤ z ∧ z < 1112064 := by
    refine ⟨(brg i 1112064 : Nat), fun W => bring_any i 1112064 W (by omega) (by omega), ?_, by omega, by have := brg_lt i 1112064 (by omega); omega⟩
    unfold rof
    by_cases q : 55296 ≤ brg i 1112064
    · rw [if_pos q, if_pos (by omega)]
    · rw [if_neg q, if_neg (by omega)]
  obtain ⟨R, hR⟩ : ∃ R, rof i = R := ⟨_, rfl⟩
  rw [hR] at hr ⊢
  have HB := Lib.hid hb
  have HR := Lib.hid hr
  clear hb hr hR
  by_cases h : 55296 ≤ z
  · go_enter Tryd.func32, Tryd.ntmps32
    go_wp2_with fail
    refine (HB.out _).mono ?_
    rintro e _ ⟨rfl, rfl⟩
    go_wp2_with fail
    go_ret
    exact ⟨ret_int (by rw [HR.out, if_pos (by omega)]), rfl⟩
  · go_enter Tryd.func32, Tryd.ntmps32
    go_wp2_with fail
    refine (HB.out _).mono ?_
    rintro e _ ⟨rfl, rfl⟩
    go_wp2_with fail
    go_ret
    exact ⟨ret_int (by rw [HR.out, if_neg (by omega)]), rfl⟩

theorem encs_snoc (l : List Int) (r : Int) : encs (l ++ [r]) = encs l ++ Lib.encodeRune r := by simp [encs]
theorem enc_len (r : Int) : 1 ≤ (Lib.encodeRune r).length ∧ (Lib.encodeRune r).length ≤ 4 := by
  have := Lib.encodeRuneZ_length r
  simpa [enc_bytes] using this
set_option maxRecDepth 100000 in
theorem encs_len (l : List Int) : (encs l).length ≤ 4 * l.length := by
  induction l with
  | nil => simp [encs]
  | cons r l ih =>
    have := enc_len r
    show (Lib.encodeRune r ++ encs l).length ≤ 4 * (l.length + 1)
    rw [List.length_append]; omega
set_option maxRecDepth 100000 in
/-- Bytes and numbers of the call's own lie apart. -/
theorem own_apart {w : World} {base base' : Nat} {v v' : Value} {l : List UInt8} {l' : List Int} (h : Own w base v l) (h' : OwnI w base' v' l') {g : Nat} (hg : v.ownBlock = some g) : v'.ownBlock ≠ some g := by
  intro e
  obtain ⟨cs, hc⟩ := h'.row e
  rcases h.2 with ⟨rfl, _⟩ | ⟨g', cap, cur, rfl, hb, hh, r⟩
  · cases hg
  · have : g' = g := by simpa [Value.ownBlock] using hg
    subst this
    rw [hh] at hc
    injection hc with hc
    injection hc with _ h53
    exact absurd h53 (by decide)

theorem OwnI.is_ {w : World} {base : Nat} {A : Option Addr} {k c : Nat} {l : List Int} (h : OwnI w base (.slice A k c) l) : Is w base w.heap.size A k c l := by
  obtain ⟨A', c', e, hi⟩ := h.is
  injection e with e1 e2 e3
  subst e1; subst e2; subst e3
  exact hi

structure BkR (w : World) (zs : List Int) (v u : Value) (i : Nat) (acc : List Int) (wr : World) : Prop where
  own : Own wr w.heap.size v (encs acc)
  ints : OwnI wr w.heap.size u acc
  len : acc.length = i
  rn : ∀ r ∈ acc, rnB r = true
  bel : Below w.heap.size w wr

set_option maxRecDepth 100000 in
set_option maxHeartbeats 1000000 in
theorem back_any {w : World} {n c : Nat} {A : Option Addr} {zs : List Int} (m : Int) (hI : Is w 0 w.heap.size A n c zs) (hm : w.cell? ⟨0, 0, none⟩ = some (.int .i64 m)) : Calls Tryd.prog 6 #[.slice A n c] w fun e w' => e = .returned (.bool true) ∧ Below w.heap.size w w' := by
  obtain ⟨i0, hi0, hz0, hz1, hz2⟩ := info_parts Tryd.info3
  have hn63 : n ≤ maxLen := by have := hI.2.1; have := hI.2.2.1; omega
  unfold maxLen at hn63
  have h0 : 0 < w.heap.size := World.block_lt_of_cell? w _ hm
  have HI := Lib.hid hI
  have HM := Lib.hid hm
  clear hI hm
  go_enter Tryd.func6, Tryd.ntmps6
  go_wp2_with fail
  refine (works_any _ m HM.out).mono ?_
  rintro e w1 ⟨rfl, hb1⟩
  have HB := Lib.hid hb1
  clear hb1
  go_wp2_with fail
  go_loopw [3, 4, 5] (fun v u j wr => ∃ (i : Nat) (acc : List Int), j = .int .i64 i ∧ i ≤ n ∧ i ≤ 100 ∧ BkR w zs v u i acc wr) (fun _ _ j _ => n - (intOf j).toNat)
  case atStart => exact ⟨0, [], rfl, by omega, by omega, ⟨Own.nil _ _, OwnI.nil _ _, rfl, by simp, HB.out⟩⟩
  case round =>
    obtain ⟨i, acc, rfl, hin, hi100, hrel⟩ := hrel
    have HR := Lib.hid hrel
    have hel := encs_len acc
    obtain rfl := hrel.len
    obtain ⟨A1, c1, rfl, _⟩ := hrel.own.bs
    obtain ⟨A2, c2, rfl, _⟩ := hrel.ints.is
    have hsz := hrel.bel.size
    clear hrel
    by_cases hlt : acc.length < n ∧ acc.length < 100
    · obtain ⟨hlt1, hlt2⟩ := hlt
      have hlt1' : (acc.length : Int) < (n : Int) := by omega
      have hlt2' : (acc.length : Int) < 100 := by omega
      have hi0' : (0 : Int) ≤ (acc.length : Int) := by omega
      have hzl := HI.out.1
      obtain ⟨b, o, rfl, hb0, hb1, hcell⟩ := HI.out.2.2.2 (by omega)
      have hc : wr.cell? ⟨b, o + acc.length, none⟩ = some (.int .i64 zs[acc.length]) := (HR.out.bel.cell (p := ⟨b, o + acc.length, none⟩) hb1).trans (hcell acc.length (by omega))
      have hro := fun W => runeOf_any zs[acc.length] W
      have hrn := rof_rn zs[acc.length]
      generalize rof zs[acc.length] = r at *
      have HRO := Lib.hid hro
      have HRN := Lib.hid hrn
      clear hro hrn hcell
      have hru := fun W (hW : W = wr) => rune_any (w := W) r ((show Own W w.heap.size _ _ from hW ▸ HR.out.own).toBs) (Nat.le_refl _) (by omega)
      have e1 : ruR (encs acc) r = (0, encs acc ++ Lib.encodeRune r) := by unfold ruR; rw [HRN.out, if_pos rfl]
      rw [e1] at hru
      have HRU := Lib.hid hru
      clear hru e1
      go_wp2_with fail
      refine (HRO.out _).mono ?_
      rintro e _ ⟨rfl, rfl⟩
      go_wp2_with fail
      refine (HRU.out _ rfl).mono ?_
      rintro e w2 ⟨v2, rfl, ho2, hb2⟩
      have hs2 := hb2.size
      obtain ⟨A3, c3, rfl, hB3⟩ := ho2.bs
      have hl3 := hB3.le
      have hp3 : 0 < (encs acc ++ Lib.encodeRune r).length := by have := enc_len r; simp only [List.length_append]; omega
      obtain ⟨b3, o3, rfl, _, _, hq3⟩ := hB3.at_ hp3
      clear hq3
      have hlen : (encs acc ++ Lib.encodeRune r).length = (encs acc).length + (Lib.encodeRune r).length := List.length_append
      have hen := enc_len r
      have heq := fun W (hW : W = w2) => eqb_any (w := W) ((show Bs W _ _ _ _ _ _ from hW ▸ hB3).pre (k := (encs acc).length) (by simp only; omega)) (show Bs W _ _ _ _ _ _ from hW ▸ (HR.out.own.toBs.below hb2 (Nat.le_refl _)))
      have etk : ((encs acc ++ Lib.encodeRune r).take (encs acc).length == encs acc) = true := by simp
      simp only [etk] at heq
      have HEQ := Lib.hid heq
      have OW2 := Lib.hid ho2
      have OI2 := Lib.hid (HR.out.ints.below hb2 (Nat.le_refl _))
      have HB2 := Lib.hid (HR.out.bel.trans (hb2.mono hsz))
      have t6 : (((encs acc).length : Nat) : Int) ≤ (c3 : Int) := by simp only at hl3; omega
      have t7 : ¬ c3 = 0 := by simp only at hl3; omega
      have t1 : ¬ (((encs acc ++ Lib.encodeRune r).length : Nat) : Int) ≤ (((encs acc).length : Nat) : Int) := by omega
      have t2 : ¬ (((encs acc).length : Nat) : Int) + 4 < (((encs acc ++ Lib.encodeRune r).length : Nat) : Int) := by omega
      have t3 : (0 : Int) ≤ (((encs acc).length : Nat) : Int) := by omega
      have t5 : (((encs acc).length : Nat) : Int) ≤ (((encs acc ++ Lib.encodeRune r).length : Nat) : Int) := by omega
      clear heq etk ho2 hb2 hB3 hlen hl3 hp3
      generalize hL : (encs acc ++ Lib.encodeRune r).length = L3 at *
      generalize hL1 : (encs acc).length = L1 at *
      go_wp2_with fail
      refine (HEQ.out _ rfl).mono ?_
      rintro e _ ⟨rfl, rfl⟩
      go_wp2_with (at_builtin; refine wpList_append_int _ rfl _ _ 24 rfl w.heap.size i0 Tryd.underlying24 hi0 hz0 hz1 hz2 _ acc rfl (OI2.out.alloc _) w2.heap.size r rfl (Blk.new w2 3 #[.int .i64 r]) (by omega) (by simp; omega) ?_; intro v4 w4 hown4 hgrow4)
      go_roundw
      case rel =>
        refine ⟨acc.length + 1, acc ++ [r], by go_num, by omega, by omega, ?_, hown4, by simp, fun x hx => ?_, (HB2.out.alloc HB2.out.size _).trans (hgrow4.below (by have := HB2.out.size; simp; omega) (fun g e => (OI2.out.lt e).1))⟩
        · rw [encs_snoc]
          have ha := (OW2.out.base_ (base' := w.heap.size) hsz).alloc (.cells #[.int .i64 r] 3)
          exact ha.grown hgrow4.1 (fun g hg hv => own_apart ha (OI2.out.alloc _) hv hg)
        · rcases List.mem_append.1 hx with hx | hx
          · exact HR.out.rn x hx
          · obtain rfl : x = r := by simpa using hx
            exact HRN.out
      case measure => simp [intOf]; omega
    · have hout : ¬ (acc.length : Int) < (n : Int) ∨ ((acc.length : Int) < (n : Int) ∧ ¬ (acc.length : Int) < 100) := by omega
      have hbk := bk_encs acc 0 HR.out.rn
      have hrn := rn_encs acc HR.out.rn
      have hru := fun W (hW : W = wr) => runes_any (w := W) (show Bs W _ _ _ _ _ _ from hW ▸ HR.out.own.toBs) (by omega)
      have e1 : rusR (encs acc) = (0, 0, acc) := by unfold rusR; rw [hbk, if_neg (by omega), hrn]
      rw [e1] at hru
      have hva := fun W (hW : Below wr.heap.size wr W) => valid_any (w := W) (HR.out.own.toBs.below hW (Nat.le_refl _)) (by omega)
      have e2 : decide (bkL 0 (encs acc) < 0) = true := by rw [hbk]; rfl
      simp only [e2] at hva
      have HRU := Lib.hid hru
      have HVA := Lib.hid hva
      clear hbk hrn hru e1 hva e2 hlt
      rcases hout with q | ⟨q, q'⟩
      all_goals
        go_wp2_with fail
        refine (HRU.out _ rfl).mono ?_
        rintro e w2 ⟨v2, rfl, ho2, hb2⟩
        obtain ⟨A3, c3, rfl, hI3⟩ := OwnI.is ho2
        have HI3 := Lib.hid hI3
        have HB2 := Lib.hid hb2
        have hIw := fun W (hW : W = w2) => eqInts_any (w := W) (hW ▸ HI3.out) (show Is W _ _ _ _ _ _ from hW ▸ (HR.out.ints.below HB2.out (Nat.le_refl _)).is_) (by simp only; omega)
        have eab : (acc == acc) = true := by simp
        simp only [eab] at hIw
        have HIW := Lib.hid hIw
        clear hIw eab hI3 hb2 ho2
        go_wp2_with fail
        refine (HIW.out _ rfl).mono ?_
        rintro e w3 ⟨rfl, hb3⟩
        have HB3 := Lib.hid (HB2.out.trans (hb3.mono HB2.out.size))
        clear hb3
        go_wp2_with fail
        refine (HVA.out _ HB3.out).mono ?_
        rintro e w4 ⟨rfl, hb4⟩
        have HB4 := Lib.hid (HB3.out.trans (hb4.mono HB3.out.size))
        clear hb4
        go_wp2_with fail
        go_ret
        exact ⟨rfl, HR.out.bel.trans (HB4.out.mono hsz)⟩
end Go.Proofs.YtjophmgpknpboaaDoor
