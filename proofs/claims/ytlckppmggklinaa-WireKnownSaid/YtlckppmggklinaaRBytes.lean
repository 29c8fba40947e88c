/-
  The document's answer: Copy, Bytes.
-/
import Derived.Test.YtlckppmggklinaaRCheck
namespace Go.Proofs.Ytlckppmggklinaa
open Go.RowKit
set_option linter.unusedVariables false
attribute [local go_sem ↓] Go.wp_at_zero Go.wp_at_succ

theorem rcopy_end {w W : World} {x y : Value} {r : Rc} (ox : Own W (w.heap.size + 2) x r.b) (oy : Own W (w.heap.size + 2) y r.raw)
    (b1 : Blk W (w.heap.size + 1) 34 #[.int .i64 0, .int .i64 0, .int .u64 0, .slice none 0 0, .slice none 0 0]) (bel : Below w.heap.size w W) :
    Blk (set5 W (w.heap.size + 1) (.int .i64 r.num) (.int .i64 r.wire) (.int .u64 r.n) x y) (w.heap.size + 1) 34 #[.int .i64 r.num, .int .i64 r.wire, .int .u64 r.n, x, y] ∧
    FreshRec w r (.returned (.agg #[.int .i64 r.num, .int .i64 r.wire, .int .u64 r.n, x, y])) (set5 W (w.heap.size + 1) (.int .i64 r.num) (.int .i64 r.wire) (.int .u64 r.n) x y) := by
  refine ⟨Blk.set5 b1 _ _ _ _ _, _, rfl, ⟨x, y, rfl, ?_, ?_⟩, ?_⟩
  · refine (ox.kept fun g hg => ?_).base_ (by omega)
    have := (ox.lt hg).1
    exact (Kept.set5 (Kept.refl g (g + 1) W) (.inl (by omega)) _ _ _ _ _) g (by omega) (by omega)
  · refine (oy.kept fun g hg => ?_).base_ (by omega)
    have := (oy.lt hg).1
    exact (Kept.set5 (Kept.refl g (g + 1) W) (.inl (by omega)) _ _ _ _ _) g (by omega) (by omega)
  · unfold set5
    exact ((((bel.setCell (by simp) _).setCell (by simp) _).setCell (by simp) _).setCell (by simp) _).setCell (by simp) _

set_option maxRecDepth 100000 in
set_option maxHeartbeats 1000000 in
theorem rcopy_any {w : World} {lo hi n c n' c' : Nat} {A A' : Option Addr} {r : Rc} (hb : Bs w lo hi A n c r.b) (hw : Bs w lo hi A' n' c' r.raw) (h1 : hi ≤ w.heap.size) (hn : r.b.length ≤ 2147483648) (hn' : r.raw.length ≤ 2147483648) :
    Calls Try.prog 36 #[.agg #[.int .i64 r.num, .int .i64 r.wire, .int .u64 r.n, .slice A n c, .slice A' n' c']] w (FreshRec w r) := by
  have HB := Lib.hid (fun (W : World) (h : Below w.heap.size w W) => copyBytes_any (hb.below h h1) hn)
  have HW := Lib.hid (fun (W : World) (h : Below w.heap.size w W) => copyBytes_any (hw.below h h1) hn')
  have hW0 : Below w.heap.size w ((w.alloc (.cells #[.int .i64 r.num, .int .i64 r.wire, .int .u64 r.n, .slice A n c, .slice A' n' c'] 34)).alloc (.cells #[.int .i64 0, .int .i64 0, .int .u64 0, .slice none 0 0, .slice none 0 0] 34)) := ((Below.refl _ _).alloc (Nat.le_refl _) _).alloc (by simp) _
  have hz0 : ((w.alloc (.cells #[.int .i64 r.num, .int .i64 r.wire, .int .u64 r.n, .slice A n c, .slice A' n' c'] 34)).alloc (.cells #[.int .i64 0, .int .i64 0, .int .u64 0, .slice none 0 0, .slice none 0 0] 34)).heap.size = w.heap.size + 2 := by simp
  have hb0 := (Blk.new w 34 #[.int .i64 r.num, .int .i64 r.wire, .int .u64 r.n, .slice A n c, .slice A' n' c']).alloc (.cells #[.int .i64 0, .int .i64 0, .int .u64 0, .slice none 0 0, .slice none 0 0] 34)
  have hb1 := Blk.new2 w (.cells #[.int .i64 r.num, .int .i64 r.wire, .int .u64 r.n, .slice A n c, .slice A' n' c'] 34) 34 #[.int .i64 0, .int .i64 0, .int .u64 0, .slice none 0 0, .slice none 0 0]
  clear hb hw
  go_enter Try.func36, Try.ntmps36
  go_wp2_with fail
  generalize ((w.alloc (.cells #[.int .i64 r.num, .int .i64 r.wire, .int .u64 r.n, .slice A n c, .slice A' n' c'] 34)).alloc (.cells #[.int .i64 0, .int .i64 0, .int .u64 0, .slice none 0 0, .slice none 0 0] 34)) = W0 at *
  refine (HB.out _ hW0).mono ?_
  rintro e w1 ⟨v1, rfl, ho1, hq1⟩
  have hs1 := hq1.size
  obtain ⟨B1, k1, d1, rfl⟩ := ho1.val
  have hb0a := hb0.below hq1 (by omega)
  have hb1a := hb1.below hq1 (by omega)
  have hW1 := hW0.trans (hq1.mono (by omega))
  have HO1 := Lib.hid ho1
  clear hb0 hb1 hW0 ho1 hq1
  obtain ⟨⟨a0, a1, a2, a3, a4⟩, ⟨f0, f1, f2, f3, f4⟩⟩ := hb0a.five
  have hW2 := hW1.setCell (p := ⟨w.heap.size, 3, none⟩) (Nat.le_refl _) (.slice B1 k1 d1)
  have hb0b := hb0a.set_ 3 (.slice B1 k1 d1)
  have hb1b := hb1a.far (p := ⟨w.heap.size, 3, none⟩) (by simp) (.slice B1 k1 d1)
  have HO2 := Lib.hid (HO1.out.setCell (p := ⟨w.heap.size, 3, none⟩) (fun e => by have := (HO1.out.lt e).1; simp at this; omega) (.slice B1 k1 d1))
  have hz2 : (w1.setCell ⟨w.heap.size, 3, none⟩ (.slice B1 k1 d1)).heap.size = w1.heap.size := by simp
  go_wp2_with fail
  clear a0 a1 a2 a3 a4 f0 f1 f2 f3 f4 hb0a hb1a hW1 HO1
  generalize w1.setCell ⟨w.heap.size, 3, none⟩ (.slice B1 k1 d1) = W2 at *
  refine (HW.out _ hW2).mono ?_
  rintro e w3 ⟨v3, rfl, ho3, hq3⟩
  have hs3 := hq3.size
  obtain ⟨B3, k3, d3, rfl⟩ := ho3.val
  have hb0c := hb0b.below hq3 (by omega)
  have hb1c := hb1b.below hq3 (by omega)
  have hW3 := hW2.trans (hq3.mono (by omega))
  have HO2c := Lib.hid (HO2.out.kept fun g hg => hq3.block g (HO2.out.lt hg).2)
  have HO3 := Lib.hid ho3
  clear hb0b hb1b hW2 ho3 hq3 HO2
  have hW4 := hW3.setCell (p := ⟨w.heap.size, 4, none⟩) (Nat.le_refl _) (.slice B3 k3 d3)
  have hb1d := hb1c.far (p := ⟨w.heap.size, 4, none⟩) (by simp) (.slice B3 k3 d3)
  have HO4 := Lib.hid (HO2c.out.setCell (p := ⟨w.heap.size, 4, none⟩) (fun e => by have := (HO2c.out.lt e).1; simp at this; omega) (.slice B3 k3 d3))
  have HO5 := Lib.hid (HO3.out.setCell (p := ⟨w.heap.size, 4, none⟩) (fun e => by have := (HO3.out.lt e).1; simp at this; omega) (.slice B3 k3 d3))
  have hend := Lib.hid (rcopy_end (r := r) (HO4.out.base_ (by omega)) (HO5.out.base_ (by omega)) hb1d hW4)
  clear HO4 HO5 hW4 hb1d HO2c HO3
  obtain ⟨⟨a0, a1, a2, a3, a4⟩, ⟨f0, f1, f2, f3, f4⟩⟩ := hb0c.five
  obtain ⟨⟨p0, p1, p2, p3, p4⟩, ⟨q0, q1, q2, q3, q4⟩⟩ := hb1c.five
  clear hb0c hb1c
  go_wp2
  exact bodyPost_ret (results_cell_row (P := Try.prog) Try.results36 _ _ (w.heap.size + 1) 34 _ (0, 0) _ rfl hend.out.1 Try.underlying34 rfl Try.size34) rfl hend.out.2

/-- The second loop: what has been joined, not too much. -/
structure Bq2 (w : World) (rs : List Rc) (v : Value) (i : Nat) (wr : World) : Prop where
  own : Own wr w.heap.size v (rawCat (rs.take i))
  bel : Below w.heap.size w wr
  few : (rawCat (rs.take i)).length ≤ 1048576

set_option maxRecDepth 100000 in
set_option maxHeartbeats 1000000 in
theorem rbytes_any {w : World} {lo hi n c : Nat} {A : Option Addr} {rs : List Rc} (hS : Rs w lo hi A n c rs) (hhi : hi ≤ w.heap.size) (hn : n ≤ 1048576) (hl : ∀ r ∈ rs, r.raw.length ≤ 2147483648) :
    Calls Try.prog 38 #[.slice A n c] w (BytesP w (byR rs)) := by
  have hlen := hS.1
  obtain ⟨i0, hi0, hz0, hz1, hz2⟩ := info_parts Try.info5
  have HL := Lib.hid hl
  clear hl
  have HLN := Lib.hid hlen
  clear hlen
  obtain ⟨R, hR⟩ : ∃ R, R = byR rs := ⟨_, rfl⟩
  rw [← hR]
  have HR := Lib.hid hR
  clear hR
  go_enter Try.func38, Try.ntmps38
  go_wp2
  go_loopw [5] (fun j wr => ∃ i : Nat, j = .int .i64 i ∧ i ≤ n ∧ ByRel w rs (rawCat (rs.take i)).length i wr) (fun j _ => n - (intOf j).toNat)
  case atStart => exact ⟨0, rfl, by omega, ⟨rfl, by simp, Below.refl _ _⟩⟩
  case round =>
    obtain ⟨i, rfl, hin, hrel⟩ := hrel
    have HREL := Lib.hid hrel
    by_cases hlt : i < n
    · have hS' := hS.kept (.of_below hrel.bel hhi)
      obtain ⟨b, o, r, B, m, d, B', m', d', rfl, hbh, hr, hsb, hsw, g0, g1, g2, g3, g4⟩ := hS'.at_ hlt
      have hwz := hrel.bel.size
      have hck := rcheck_any (r := r) hsb hsw (by omega) (by
        have := HL.out r (List.mem_of_getElem? hr); have := hsw.len; omega)
      have HRR := Lib.hid hr
      have hi0' : (0 : Int) ≤ (i : Int) := by omega
      have hi1' : (i : Int) < (n : Int) := by omega
      have hbel := hrel.bel
      clear hr hsb hsw hS' hrel
      by_cases hc : chkE r = 0
      · rw [hc] at hck
        have HCK := Lib.hid hck
        have HC := Lib.hid hc
        clear hck hc
        go_wp2_with fail
        refine HCK.out.mono ?_
        rintro e w1 ⟨rfl, hb1⟩
        have hs1 := hb1.size
        go_wp2
        have hst := by_step HREL.out HRR.out HC.out (hbel.trans (hb1.mono (by omega)))
        refine ⟨⟨i + 1, by go_num, by omega, ⟨rfl, hst.ok, hst.bel⟩⟩, by simp [intOf]; omega⟩
      · have h2 : chkE r = 2 := (chk02 r).resolve_left hc
        have hbad := by_bad HRR.out hc
        rw [h2] at hck
        have HCK := Lib.hid hck
        have HBD := Lib.hid hbad
        clear hck hc h2 hbad
        go_wp2_with fail
        refine HCK.out.mono ?_
        rintro e w1 ⟨rfl, hb1⟩
        go_wp2
        go_ret2
        rw [HR.out, HBD.out]
        exact ⟨_, rfl, Own.nil _ _, hbel.trans (hb1.mono hbel.size)⟩
    · obtain ⟨ht, hf⟩ := by_fine hrel HLN.out hlt
      have hbel := hrel.bel
      have HHF := Lib.hid (HR.out.trans hf)
      have HHT := Lib.hid ht
      clear hrel HREL hf ht
      have hst : Bq2 w rs (.slice none 0 0) 0 wr := ⟨Own.nil _ _, hbel, by simp [rawCat]⟩
      clear hbel
      go_wp2
      go_loopw [4, 7] (fun v j wr => ∃ i : Nat, j = .int .i64 i ∧ i ≤ n ∧ Bq2 w rs v i wr) (fun _ j _ => n - (intOf j).toNat)
      case atStart => exact ⟨0, rfl, by omega, hst⟩
      case round =>
        rename_i i1 _ _ _ _
        obtain ⟨i, rfl, hin, hrel⟩ := hrel
        clear hst
        by_cases hlt : i < n
        · have hS' := hS.kept (.of_below hrel.bel hhi)
          obtain ⟨b, o, r, B, m, d, B', m', d', rfl, hbh, hr, hsb, hsw, g0, g1, g2, g3, g4⟩ := hS'.at_ hlt
          have hwz := hrel.bel.size
          have HRR := Lib.hid hr
          have hi0' : (0 : Int) ≤ (i : Int) := by omega
          have hi1' : (i : Int) < (n : Int) := by omega
          have hbel := hrel.bel
          have hown := hrel.own
          have hfew := hrel.few
          have hm' : m' ≤ 2147483648 := by
            have := HL.out r (List.mem_of_getElem? hr); have := hsw.len; omega
          clear hr hsb hS' hrel
          go_wp2_with (at_builtin; refine wpList_append_bs _ rfl _ _ 22 rfl i0 Try.underlying22 hi0 hz0 hz1 hz2 w.heap.size _ _ rfl hown _ _ _ _ _ _ rfl hsw (by omega) (by omega) ?_; intro v1 w1 hown1 hgrow1; obtain ⟨B1, k1, c1, rfl⟩ := hown1.val; have hk1 := Lib.hid hown1.toBs.len)
          · have hbig : (1048576 : Int) < (k1 : Int) := by assumption
            go_ret2
            have hle := rawCat_take_le rs (i + 1)
            rw [take_snoc_of HRR.out, rawCat_snoc] at hle
            have hk := hk1.out
            rw [HHF.out, if_pos (by have := HHT.out; omega)]
            exact ⟨_, rfl, Own.nil _ _, hbel.trans (hgrow1.below (by omega) (fun g hg => (hown.lt hg).1))⟩
          · have hbig : ¬ (1048576 : Int) < (k1 : Int) := by omega
            refine ⟨⟨i + 1, by go_num, by omega, ?_, ?_, ?_⟩, by simp [intOf]; omega⟩
            · rw [take_snoc_of HRR.out, rawCat_snoc]; exact hown1
            · exact hbel.trans (hgrow1.below (by omega) (fun g hg => (hown.lt hg).1))
            · rw [take_snoc_of HRR.out, rawCat_snoc]
              have hk := hk1.out
              omega
        · go_wp2
          go_ret2
          have hown := hrel.own
          have hfew := hrel.few
          rw [List.take_of_length_le (by have := HLN.out; omega)] at hown hfew
          rw [HHF.out, if_neg (by have := HHT.out; omega)]
          exact ⟨_, rfl, hown, hrel.bel⟩
end Go.Proofs.Ytlckppmggklinaa
