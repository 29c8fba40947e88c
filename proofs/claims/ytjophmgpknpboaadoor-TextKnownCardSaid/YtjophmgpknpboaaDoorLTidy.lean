/-
  TextTidy, walked.
-/
import Derived.Test.YtjophmgpknpboaaDoorWorks
import Derived.Test.YtjophmgpknpboaaDoorTidyMath
import Derived.Test.YtjophmgpknpboaaDoorRFull
import Derived.Test.YtjophmgpknpboaaDoorLKeys
import Derived.Deep.RegionHeld3
import Derived.Deep.QuietTactic
import Derived.BigQuiet
namespace Go.Proofs.YtjophmgpknpboaaDoor
open Go.RowKit
set_option linter.unusedVariables false
set_option linter.unusedSimpArgs false

theorem cut_bs {w : World} {lo hi n c : Nat} {A : Option Addr} {l : List UInt8} (N : Nat) (h : Bs w lo hi A n c l) : ∃ k L, k ≤ N ∧ Bs w lo hi A k c L ∧ min (n : Int) (N : Int) = (k : Int) ∧ k ≤ c := by
  have hle := h.le
  by_cases hn : n ≤ N
  · exact ⟨n, l, hn, h, by omega, hle⟩
  · exact ⟨N, l.take N, by omega, h.pre (by omega), by omega, by omega⟩
/-- The bytes of a list, as a string. -/
def bstr (l : List UInt8) : ByteArray := ⟨l.toArray⟩
theorem bstr_list (l : List UInt8) : (bstr l).data.toList = l := by simp [bstr]
theorem bstr_size (l : List UInt8) : (bstr l).size = l.length := by show l.toArray.size = _; simp

/-- append of bytes, in a region that draws its order. -/
theorem step_append_bs {P : Program} (w : World) {ops : Array Oper} {o : Oper} {a : Act} {K : Act → World → Prop} {Q : Exit → Act → World → Prop} {E : Prop} (hgd : o.guard = none) (s x : Operand) (t : TypeId)
    (ho : o.op = .call { callee := .builtin .append, args := #[s, x], argTypes := #[t, t] }) (i : TypeInfo)
    (ht : P.underlying t = some (.slice 5)) (hi5 : P.info? 5 = some i) (hz : i.zero = some (.int .u8 0)) (hsize : i.size = 1) (hby : i.bytes = 1)
    (base : Nat) (v : Value) (xs : List UInt8) (hs : a.eval s = v) (hown : Own w base v xs) (lo hi n c : Nat) (A : Option Addr) (l : List UInt8) (hx : a.eval x = .slice A n c) (hr : Bs w lo hi A n c l)
    (hlen : xs.length + n ≤ 140737488355328) (hbase : base ≤ w.heap.size)
    (h : ∀ v' w', Own w' base v' (xs ++ l) → Grew w w' v v' → K (a.put o.dst v') w') : if Region.wanted o (yielded ops a.tmps) = true then Oper.wp P o a w K Q else E := by
  have hw : Region.wanted o (yielded ops a.tmps) = true := by simp [Region.wanted, hgd]
  rw [if_pos hw]
  exact wp_append_bs w s x t ho i ht hi5 hz hsize hby base v xs hs hown lo hi n c A l hx hr hlen hbase h

set_option maxRecDepth 100000 in
set_option maxHeartbeats 1000000 in
theorem tidy_any {w : World} {n c n' c' : Nat} {A A' : Option Addr} {l l' : List UInt8} (m : Int) (hB : Bs w 0 w.heap.size A n c l) (hB' : Bs w 0 w.heap.size A' n' c' l') (hm : w.cell? ⟨0, 0, none⟩ = some (.int .i64 m)) : Calls Tryd.prog 8 #[.slice A n c, .slice A' n' c'] w fun e w' => e = .returned (.bool true) ∧ Below w.heap.size w w' := by
  obtain ⟨i0, hi0, hz0, hz1, hz2⟩ := info_parts Tryd.info5
  have h0 : 0 < w.heap.size := World.block_lt_of_cell? w _ hm
  have HM := Lib.hid hm
  have cc := hB.cap
  have cc' := hB'.cap
  have nn := hB.le
  have nn' := hB'.le
  unfold maxLen at cc cc'
  obtain ⟨k, L, hk, hL, hmin, hkc⟩ := cut_bs 200 hB
  obtain ⟨k', L', hk', hL', hmin', hkc'⟩ := cut_bs 200 hB'
  have hmin2 : min (n : Int) 200 = (k : Int) := hmin
  have hmin2' : min (n' : Int) 200 = (k' : Int) := hmin'
  have hkc2 : (k : Int) ≤ (c : Int) := by omega
  have hkc2' : (k' : Int) ≤ (c' : Int) := by omega
  have k0 : (0 : Int) ≤ (k : Int) := by omega
  have k0' : (0 : Int) ≤ (k' : Int) := by omega
  have hkl := hL.len
  have hkl' := hL'.len
  obtain ⟨sb, hsb, hq⟩ : ∃ sb : ByteArray, sb.data.toList = qtL L ∧ ∀ W, Below w.heap.size w W → Calls Tryd.prog 30 #[.slice A k c] W fun e w' => e = .returned (.string sb) ∧ Below W.heap.size W w' :=
    ⟨bstr (qtL L), bstr_list _, fun W h => quote_any (hL.below h (Nat.le_refl _)) h.size (by omega)⟩
  obtain ⟨tb, htb, hq'⟩ : ∃ tb : ByteArray, tb.data.toList = qtL L' ∧ ∀ W, Below w.heap.size w W → Calls Tryd.prog 30 #[.slice A' k' c'] W fun e w' => e = .returned (.string tb) ∧ Below W.heap.size W w' :=
    ⟨bstr (qtL L'), bstr_list _, fun W h => quote_any (hL'.below h (Nat.le_refl _)) h.size (by omega)⟩
  have hsl : sb.size = (qtL L).length := by rw [← hsb]; simp
  have htl : tb.size = (qtL L').length := by rw [← htb]; simp
  have q1 := qt_len L
  have q2 := qt_len L'
  have hs2 : 2 ≤ sb.size := by omega
  have ht2 : 2 ≤ tb.size := by omega
  have hs8 : sb.size ≤ 802 := by omega
  have ht8 : tb.size ≤ 802 := by omega
  have hun : ∀ W, Calls Tryd.prog 28 #[.string sb] W (BytesP W (0, L)) := by
    intro W
    have := unquote_any sb W (by omega)
    rw [hsb, unq_qt] at this
    exact this
  obtain ⟨ub, a1, l1⟩ := str_add (sb.extract 0 (sb.size - 1)) (tb.extract 1 tb.size) (by simp [ByteArray.size_extract]; omega)
  have hub : ub.data.toList = qtL (L ++ L') := by
    rw [l1, extract_mid, Lib.extract_to_end, hsb, htb, qt_append]
    rw [hsl]
    simp
  have hall : ∀ x ∈ sb.data.toList, 32 ≤ x.toNat ∧ x.toNat ≤ 126 := by rw [hsb]; exact qt_plain L
  have HQ := Lib.hid hq
  have HQ' := Lib.hid hq'
  have HUN := Lib.hid hun
  have HSB := Lib.hid hsb
  have HUB := Lib.hid hub
  have HALL := Lib.hid hall
  have HKL := Lib.hid hkl
  have HKL' := Lib.hid hkl'
  have fw1 : IntKind.i64.wrap ((sb.size : Int) - 1) = (sb.size : Int) - 1 := IntWalk.i64_in _ (by omega)
  have fw2 : (0 : Int) ≤ (sb.size : Int) - 1 := by omega
  have fw3 : ((sb.size : Int) - 1).toNat = sb.size - 1 := by omega
  have fw4 : (sb.size : Int) - 1 ≤ (sb.size : Int) := by omega
  have fw8 : (1 : Int) ≤ (sb.size : Int) := by omega
  have fw5 : (1 : Int) ≤ (tb.size : Int) := by omega
  have fw6 : ¬ (sb.size : Int) < 2 := by omega
  have fw7 : ¬ (tb.size : Int) < 2 := by omega
  clear hq hq' hun hsb htb hub l1 hall hsl htl q1 q2 hkl hkl'
  have HL := Lib.hid hL
  have HL' := Lib.hid hL'
  clear hm hmin hmin' hB hB' hL hL'
  go_enter Tryd.func8, Tryd.ntmps8
  go_wp2_with fail
  go_quiet (fail)
  go_wp2_with fail
  refine (HQ.out _ (Below.drewN_ (Below.refl _ _) _)).mono ?_
  rintro e w1 ⟨rfl, hb1⟩
  have HB := Lib.hid ((Below.drewN_ (Below.refl w.heap.size w) _).trans hb1)
  clear hb1
  go_wp2_with fail
  refine (HQ'.out _ HB.out).mono ?_
  rintro e w2 ⟨rfl, hb2⟩
  replace HB := Lib.hid (HB.out.trans (hb2.mono HB.out.size))
  clear hb2
  go_wp2_with fail
  refine (HUN.out _).mono ?_
  rintro e w3 ⟨v3, rfl, ho3, hb3⟩
  obtain ⟨A3, c3, rfl, hB3⟩ := ho3.bs
  replace HB := Lib.hid (HB.out.trans (hb3.mono HB.out.size))
  have O3 := Lib.hid ho3
  clear hb3 ho3 hB3
  go_wp2_with fail
  have heq := fun W (hW : W = w3) => eqb_any (w := W) (show Bs W _ _ _ _ _ _ from hW ▸ O3.out.toBs) (show Bs W _ _ _ _ _ _ from hW ▸ HL.out.below HB.out (Nat.le_refl _))
  have ell : (L == L) = true := by simp
  simp only [ell] at heq
  have HEQ := Lib.hid heq
  have hq3 : ∀ W, Below w3.heap.size w3 W → Calls Tryd.prog 30 #[.slice A3 L.length c3] W fun e w' => e = .returned (.string sb) ∧ Below W.heap.size W w' := by
    intro W h
    have := quote_any (O3.out.toBs.below h (Nat.le_refl _)) h.size (by have := HKL.out; omega)
    have e : (⟨(qtL L).toArray⟩ : ByteArray) = sb := bytes_ext (by rw [HSB.out])
    unfold StrP at this
    rw [e] at this
    exact this
  have HQ3 := Lib.hid hq3
  clear heq ell hq3
  go_wp2_with fail
  refine (HEQ.out _ rfl).mono ?_
  rintro e _ ⟨rfl, rfl⟩
  go_wp2_with fail
  refine (HQ3.out _ (Below.refl _ _)).mono ?_
  rintro e w4 ⟨rfl, hb4⟩
  replace HB := Lib.hid (HB.out.trans (hb4.mono HB.out.size))
  clear hb4
  go_wp2_with fail
  go_loop [9] (fun q => ∃ i : Nat, q = .int .i64 i ∧ i ≤ sb.size) (fun q => sb.size - (intOf q).toNat)
  case atStart => exact ⟨0, rfl, by omega⟩
  case round =>
    obtain ⟨i, rfl, hi⟩ := hrel
    by_cases hlt : i < sb.size
    · have hlt' : (i : Int) < (sb.size : Int) := by omega
      have hi0' : (0 : Int) ≤ (i : Int) := by omega
      have hp := HALL.out sb[i] (by rw [str_at sb i hlt]; exact List.getElem_mem _)
      have p1 : ¬ ((sb[i].toNat : Nat) : Int) < 32 := by omega
      have p2 : ¬ (126 : Int) < ((sb[i].toNat : Nat) : Int) := by omega
      clear hp
      go_wp2_with fail
      go_round
      case rel => exact ⟨i + 1, by go_num, by omega⟩
      case measure => simp [intOf]; omega
    · have hlt' : ¬ (i : Int) < (sb.size : Int) := by omega
      have hcp : ∀ W, Below w.heap.size w W → Calls Tryd.prog 12 #[.slice A k c] W (Fresh W L) := fun W h => copyBytes_any (HL.out.below h (Nat.le_refl _)) (by have := HKL.out; omega)
      have HCP := Lib.hid hcp
      have hqf : ∀ W base v, Own W base v (L ++ L') → Calls Tryd.prog 30 #[v] W fun e w' => e = .returned (.string ub) ∧ Below W.heap.size W w' := by
        intro W base v ho
        obtain ⟨A7, c7, rfl, hb7⟩ := ho.bs
        have := quote_any hb7 (Nat.le_refl _) (by have := HKL.out; have := HKL'.out; simp; omega)
        have e : (⟨(qtL (L ++ L')).toArray⟩ : ByteArray) = ub := bytes_ext (by rw [HUB.out])
        unfold StrP at this
        rw [e] at this
        exact this
      have HQF := Lib.hid hqf
      have hwk : ∀ W, Below w.heap.size w W → Calls Tryd.prog 21 #[] W fun e w' => e = .returned (.bool true) ∧ Below W.heap.size W w' := fun W h => works_any W m ((h.cell (p := ⟨0, 0, none⟩) h0).trans HM.out)
      have HWK := Lib.hid hwk
      have hll : L.length + k' ≤ 140737488355328 := by have := HKL.out; omega
      clear hcp hqf hwk hlt
      have HS4 := HB.out.size
      go_wp2_with fail
      go_region_held3 (fun _ => True) (trivial)
        (first
          | (go_at_call 12; refine (HCP.out _ HB.out.drew).mono ?_; rintro e w5 ⟨v5, rfl, ho5, hb5⟩; have O5 := Lib.hid (ho5.base_ HB.out.drew.size); have B5 := Lib.hid (HB.out.drew.trans (hb5.mono HB.out.drew.size)); clear ho5 hb5)
          | (refine step_append_bs _ (by rfl) _ _ 22 (by rfl) i0 Tryd.underlying22 hi0 hz0 hz1 hz2 w.heap.size v5 L (by rfl) (by first | exact O5.out | exact O5.out.drew) 0 w.heap.size k' c' A' L' (by rfl) (by first | exact HL'.out.below B5.out (Nat.le_refl _) | exact (HL'.out.below B5.out (Nat.le_refl _)).drew) hll (by first | exact B5.out.size | exact B5.out.drew.size) ?_; intro v6 w6 ho6 hg6; have B6 := Lib.hid (show Below w.heap.size w w6 by first | exact B5.out.trans (hg6.below B5.out.size (fun g e => (O5.out.lt e).1)) | exact B5.out.drew.trans (hg6.below B5.out.drew.size (fun g e => (O5.out.lt e).1))))
          | (go_at_call 30; refine (HQF.out _ _ _ ho6).mono ?_; rintro e w7 ⟨rfl, hb7⟩; have B7 := Lib.hid (show Below w.heap.size w w7 by first | exact B6.out.trans (hb7.mono B6.out.size) | exact B6.out.drew.trans (hb7.mono B6.out.drew.size)))
          | (go_at_call 21; refine (HWK.out _ (by first | exact B7.out | exact B7.out.drew)).mono ?_; rintro e w8 ⟨rfl, hb8⟩; have B8 := Lib.hid (show Below w.heap.size w w8 by first | exact B7.out.trans (hb8.mono B7.out.size) | exact B7.out.drew.trans (hb8.mono B7.out.drew.size))))
      go_wp2_with fail
      go_ret
      exact ⟨rfl, B8.out⟩
end Go.Proofs.YtjophmgpknpboaaDoor
