/-
  The document's Runes and Valid, walked.
-/
import Derived.Test.YtjophmgpknpboaaDoorFirst
namespace Go.Proofs.YtjophmgpknpboaaDoor
open Go.RowKit
open Go.Lib (decodeL encodeRune)
set_option linter.unusedVariables false
set_option linter.unusedSimpArgs false

structure RrR (w : World) (l : List UInt8) (q : Int) (v : Value) (pos : Nat) (acc : List Int) (wr : World) : Prop where
  own : OwnI wr w.heap.size v acc
  fin : acc ++ rnL (l.drop pos) = rnL l
  brk : bkL pos (l.drop pos) = q
  bel : Below w.heap.size w wr
  few : acc.length ≤ pos
  le : pos ≤ l.length
theorem RrR.next {w wr w1 : World} {l : List UInt8} {q : Int} {v v1 : Value} {pos : Nat} {acc : List Int} (h : RrR w l q v pos acc wr) (hp : pos < l.length) (hok : okL (l.drop pos) = true) (hd : (decodeL (l.drop pos)).2 ≤ l.length - pos)
    (hown : OwnI w1 w.heap.size v1 (acc ++ [((decodeL (l.drop pos)).1 : Int)])) (hb : Below w.heap.size w w1) : RrR w l q v1 (pos + (decodeL (l.drop pos)).2) (acc ++ [((decodeL (l.drop pos)).1 : Int)]) w1 := by
  have hne : l.drop pos ≠ [] := by simp; omega
  have hd1 := dec_pos (l.drop pos)
  refine ⟨hown, ?_, ?_, hb, by have := h.few; simp; omega, by omega⟩
  · rw [← h.fin, rnL_step _ hne, List.drop_drop, List.append_assoc]; rfl
  · have := h.brk
    rw [bkL_step _ _ hne, if_pos hok, List.drop_drop] at this
    exact this

theorem ok_width (l : List UInt8) (hne : l ≠ []) (hok : okL l = true) : (decodeL l).2 ≤ l.length := by
  obtain ⟨n, hn, he⟩ := ok_dec l hne hok
  generalize hr : l.drop (encodeRune n).length = r at he
  subst he
  rw [dec_enc n hn]
  simp

set_option maxRecDepth 100000 in
set_option maxHeartbeats 1000000 in
theorem rrunes_any {w : World} {lo hi n c : Nat} {A : Option Addr} {l : List UInt8} (hB : Bs w lo hi A n c l) (hhi : hi ≤ w.heap.size) (hn : n ≤ 1000000) :
    Calls Tryd.prog 14 #[.slice A n c] w (RunesP w (rusR l)) := by
  obtain ⟨i0, hi0, hz0, hz1, hz2⟩ := info_parts Tryd.info3
  have hl := hB.len
  have hle := hB.le
  have HL := Lib.hid hl
  have HB := Lib.hid hB
  have hR : rusR l = if 0 ≤ bkL 0 l then (20, bkL 0 l, []) else (0, 0, rnL l) := rfl
  obtain ⟨R, hRR⟩ : ∃ R, R = rusR l := ⟨_, rfl⟩
  rw [← hRR] at hR ⊢
  obtain ⟨q, hq⟩ : ∃ q, bkL 0 l = q := ⟨_, rfl⟩
  rw [hq] at hR
  have HR := Lib.hid hR
  have hst : RrR w l q (.slice none 0 0) 0 [] w := ⟨OwnI.nil _ _, by simp, by simpa using hq, Below.refl _ _, by simp, by omega⟩
  have HST := Lib.hid hst
  clear hl hB hRR hR hq hst
  go_enter Tryd.func14, Tryd.ntmps14
  go_wp2_with fail
  go_loopw [5, 6] (fun v j wr => ∃ (pos : Nat) (acc : List Int), j = .int .i64 pos ∧ RrR w l q v pos acc wr) (fun _ j _ => n - (intOf j).toNat)
  case atStart => exact ⟨0, [], rfl, HST.out⟩
  case round =>
    obtain ⟨pos, acc, rfl, hrel⟩ := hrel
    have h1 := hrel.few
    have h2 := hrel.le
    have hbz := hrel.bel.size
    have HREL := Lib.hid hrel
    obtain ⟨A5, c5, rfl, _⟩ := hrel.own.is
    have hown := hrel.own
    by_cases hlt : pos < n
    · obtain ⟨b, o, rfl, _⟩ := HB.out.at_ (by omega)
      have hlt' : (pos : Int) < (n : Int) := by omega
      have hp0 : (0 : Int) ≤ (pos : Int) := by omega
      have hpn : (pos : Int) ≤ (n : Int) := by omega
      have hsub : (n : Int) - (pos : Int) = ((n - pos : Nat) : Int) := by omega
      have hcz : ¬ c - pos = 0 := by omega
      have hlen := HL.out
      have hne : l.drop pos ≠ [] := by simp; omega
      have hsuf : Bs wr lo hi (some ⟨b, o + pos, none⟩) (n - pos) (c - pos) (l.drop pos) := by
        have := (HB.out.below hrel.bel hhi).mid (K := pos) (m := n - pos) (by omega)
        rw [List.take_of_length_le (by simp; omega)] at this
        exact this
      have hfi := first_any hsuf (by omega) (by omega) (by omega)
      rw [fs_ok _ hne] at hfi
      cases hok : okL (l.drop pos)
      · rw [hok, if_neg (by simp)] at hfi
        have hbk := hrel.brk
        rw [bkL_step _ _ hne, hok, if_neg (by simp)] at hbk
        have HBK := Lib.hid hbk
        have HFI := Lib.hid hfi
        clear hfi hbk hok hne hsuf hrel hown h1 h2 hlen
        go_wp2_with fail
        refine (HFI.out).mono ?_
        rintro e w2 ⟨rfl, hb2⟩
        have HB2 := Lib.hid (HREL.out.bel.trans (hb2.mono HREL.out.bel.size))
        clear hb2
        go_wp2_with fail
        refine bodyPost_ret (v := .tuple #[.slice none 0 0, .int .i64 (pos : Int), .int .i64 20]) (by simp [results, Tryd.results14, go_sem]) rfl ?_
        rw [HR.out, ← HBK.out, if_pos (by omega)]
        exact ⟨_, rfl, OwnI.nil _ _, HB2.out⟩
      · rw [hok, if_pos rfl] at hfi
        have hw1 := ok_width _ hne hok
        have hw2 := dec_pos (l.drop pos)
        have hN := fun v1 w1 => hrel.next (v1 := v1) (w1 := w1) (by omega) hok (by simp at hw1; omega)
        have hw3 : (decodeL (l.drop pos)).2 ≤ n - pos := by simp at hw1; omega
        generalize decodeL (l.drop pos) = D at *
        obtain ⟨N, M⟩ := D
        simp only at hw1 hw2 hw3 hN hfi
        have hM0 : ((M : Int) == 0) = false := by simp; omega
        have HN := Lib.hid hN
        have HFI := Lib.hid hfi
        have hacl : acc.length ≤ 1073741824 := by omega
        clear hfi hok hne hsuf hrel hown h1 h2 hN hw1 hlen
        go_wp2_with fail
        refine (HFI.out).mono ?_
        rintro e w2 ⟨rfl, hb2⟩
        have HB2 := Lib.hid (HREL.out.bel.trans (hb2.mono HREL.out.bel.size))
        have hown2 : OwnI w2 w.heap.size (.slice A5 acc.length c5) acc := HREL.out.own.kept fun g cs hg _ => hb2.block g (HREL.out.own.lt hg).2
        have HO2 := Lib.hid hown2
        have hblk := Blk.new w2 3 #[.int .i64 (N : Int)]
        have haz : w.heap.size ≤ (w2.alloc (.cells #[.int .i64 (N : Int)] 3)).heap.size := by have := HB2.out.size; simp; omega
        clear hb2 hown2
        go_wp2_with (at_builtin; refine wpList_append_int _ rfl _ _ 24 rfl w.heap.size i0 Tryd.underlying24 hi0 hz0 hz1 hz2 _ acc rfl (HO2.out.alloc _) _ _ rfl hblk hacl haz ?_; intro v3 w3 hown3 hgrow3)
        have hb3 : Below w.heap.size w w3 := (HB2.out.alloc HB2.out.size _).trans (hgrow3.below haz (fun g e => (HO2.out.lt e).1))
        have hst := HN.out _ _ hown3 hb3
        go_roundw
        case rel => exact ⟨_, _, by go_num, hst⟩
        case measure => simp [intOf]; omega
    · have hlt' : ¬ (pos : Int) < (n : Int) := by omega
      have hfin := hrel.fin
      have hbk := hrel.brk
      have hlen := HL.out
      rw [List.drop_eq_nil_of_le (by omega), rnL_nil, List.append_nil] at hfin
      rw [List.drop_eq_nil_of_le (by omega), bkL_nil] at hbk
      have HFIN := Lib.hid hfin
      have HBK := Lib.hid hbk
      clear hfin hbk hrel hown h1 h2 hlen
      go_wp2_with fail
      refine bodyPost_ret (v := .tuple #[.slice A5 acc.length c5, .int .i64 0, .int .i64 0]) (by simp [results, Tryd.results14, go_sem]) rfl ?_
      rw [HR.out, ← HBK.out, ← HFIN.out]
      exact ⟨_, rfl, HREL.out.own, HREL.out.bel⟩

set_option maxHeartbeats 1000000 in
theorem rvalid_any {w : World} {lo hi n c : Nat} {A : Option Addr} {l : List UInt8} (hB : Bs w lo hi A n c l) (hhi : hi ≤ w.heap.size) (hn : n ≤ 1000000) :
    Calls Tryd.prog 20 #[.slice A n c] w fun e w' => e = .returned (.bool (decide (bkL 0 l < 0))) ∧ Below w.heap.size w w' := by
  have HR := Lib.hid (rrunes_any hB hhi hn)
  have hR : rusR l = if 0 ≤ bkL 0 l then (20, bkL 0 l, []) else (0, 0, rnL l) := rfl
  generalize rusR l = R at *
  by_cases h : 0 ≤ bkL 0 l
  · rw [if_pos h] at hR
    have h2 := Lib.hid (show decide (bkL 0 l < 0) = false from decide_eq_false (by omega))
    have HR2 := Lib.hid hR
    clear hR h
    go_enter Tryd.func20, Tryd.ntmps20
    go_wp2_with fail
    refine (HR.out).mono ?_
    rintro e w2 ⟨v, rfl, ho, hb⟩
    rw [HR2.out]
    have HBB := Lib.hid hb
    clear ho hb
    go_wp2_with fail
    go_ret
    exact ⟨by rw [h2.out]; rfl, HBB.out⟩
  · rw [if_neg h] at hR
    have h2 := Lib.hid (show decide (bkL 0 l < 0) = true from decide_eq_true (by omega))
    have HR2 := Lib.hid hR
    clear hR h
    go_enter Tryd.func20, Tryd.ntmps20
    go_wp2_with fail
    refine (HR.out).mono ?_
    rintro e w2 ⟨v, rfl, ho, hb⟩
    rw [HR2.out]
    have HBB := Lib.hid hb
    clear ho hb
    go_wp2_with fail
    go_ret
    exact ⟨by rw [h2.out]; rfl, HBB.out⟩
end Go.Proofs.YtjophmgpknpboaaDoor
