/-
  Lists of numbers; EqInts; Runes.
-/
import Derived.Test.YtjophmgpknpboaaDoorBroken
namespace Go.Proofs.YtjophmgpknpboaaDoor
open Go.RowKit
set_option linter.unusedVariables false
set_option linter.unusedSimpArgs false

theorem Tryd.info3 : (Tryd.prog.info? 3).map (fun i => (i.zero, i.size, i.bytes)) = some (some (.int .i64 0), 1, 8) := by kernel_rfl

/-- Numbers of the call's own. -/
def OwnI (w : World) (base : Nat) (v : Value) (l : List Int) : Prop := w.ownsRow base 3 1 v l.length (l.map (Value.int .i64))
/-- Numbers that lie anywhere. -/
def Is (w : World) (lo hi : Nat) (A : Option Addr) (n c : Nat) (l : List Int) : Prop :=
  l.length = n ∧ n ≤ c ∧ c ≤ maxLen ∧ (0 < n → ∃ b o, A = some ⟨b, o, none⟩ ∧ lo ≤ b ∧ b < hi ∧ ∀ j (h : j < l.length), w.cell? ⟨b, o + j, none⟩ = some (.int .i64 l[j]))
section
variable {w w' : World} {base lo hi n c : Nat} {A : Option Addr} {v : Value} {l : List Int}
theorem OwnI.nil (w : World) (base : Nat) : OwnI w base (.slice none 0 0) [] := ⟨rfl, .inl ⟨rfl, rfl⟩⟩
theorem OwnI.kept (h : OwnI w base v l) (k : ∀ g cs, v.ownBlock = some g → w.heap[g]? = some (.cells cs 3 (0, 0)) → w'.heap[g]? = w.heap[g]?) : OwnI w' base v l := by
  refine ⟨h.1, ?_⟩
  rcases h.2 with h | ⟨g, cap, cur, rfl, hb, hh, r⟩
  · exact .inl h
  · exact .inr ⟨g, cap, cur, rfl, hb, by rw [k g cur rfl hh]; exact hh, r⟩
theorem OwnI.lt (h : OwnI w base v l) {g : Nat} (hg : v.ownBlock = some g) : base ≤ g ∧ g < w.heap.size := by
  rcases h.2 with ⟨rfl, _⟩ | ⟨g', cap, cur, rfl, hb, hh, r⟩
  · cases hg
  · have : g' = g := by simpa [Value.ownBlock] using hg
    subst this
    refine ⟨hb, ?_⟩
    rcases Nat.lt_or_ge g' w.heap.size with hlt | hge
    · exact hlt
    · rw [Array.getElem?_eq_none hge] at hh; cases hh
theorem OwnI.row (h : OwnI w base v l) {g : Nat} (hg : v.ownBlock = some g) : ∃ cs, w.heap[g]? = some (.cells cs 3 (0, 0)) := by
  rcases h.2 with ⟨rfl, _⟩ | ⟨g', cap, cur, rfl, hb, hh, r⟩
  · cases hg
  · have : g' = g := by simpa [Value.ownBlock] using hg
    subst this
    exact ⟨cur, hh⟩
theorem OwnI.alloc (h : OwnI w base v l) (o : Obj) : OwnI (w.alloc o) base v l := h.kept fun g _ hg _ => Below.heap_alloc w o g (h.lt hg).2
theorem OwnI.drew (h : OwnI w base v l) : OwnI w.drew base v l := h
theorem OwnI.below {B : Nat} (h : OwnI w base v l) (hb : Below B w w') (hB : w.heap.size ≤ B) : OwnI w' base v l := h.kept fun g _ hg _ => hb.block g (Nat.lt_of_lt_of_le (h.lt hg).2 hB)
theorem OwnI.is (h : OwnI w base v l) : ∃ A c, v = .slice A l.length c ∧ Is w base w.heap.size A l.length c l := by
  rcases h.2 with ⟨rfl, h0⟩ | ⟨g, cap, cur, rfl, hb, hh, hnc, hm, hsz, ht⟩
  · have hl : l = [] := List.eq_nil_of_length_eq_zero h0
    subst hl
    exact ⟨none, 0, rfl, rfl, by simp, by unfold maxLen; omega, fun h => absurd h (by simp)⟩
  · refine ⟨_, _, rfl, rfl, hnc, hm, fun _ => ⟨g, 0, rfl, hb, ?_, fun j hj => ?_⟩⟩
    · rcases Nat.lt_or_ge g w.heap.size with hlt | hge
      · exact hlt
      · rw [Array.getElem?_eq_none hge] at hh; cases hh
    · rw [cell_of_row w g (0 + j) cur 3 (0, 0) hh]
      have h1 : (cur.toList.take (l.length * 1))[j]? = (l.map (Value.int .i64))[j]? := by rw [ht]
      rw [List.getElem?_take_of_lt (by omega)] at h1
      rw [Nat.zero_add, ← Array.getElem?_toList, h1]
      simp [List.getElem?_eq_getElem hj]
theorem Is.kept (h : Is w lo hi A n c l) (k : Kept lo hi w w') : Is w' lo hi A n c l :=
  ⟨h.1, h.2.1, h.2.2.1, fun hn => by
    obtain ⟨b, o, e, h1, h2, hc⟩ := h.2.2.2 hn
    exact ⟨b, o, e, h1, h2, fun j hj => (World.cell?_of_block (a := ⟨b, o + j, none⟩) (k b h1 h2)).trans (hc j hj)⟩⟩
theorem Is.below {B : Nat} (h : Is w lo hi A n c l) (hb : Below B w w') (hB : hi ≤ B) : Is w' lo hi A n c l := h.kept (.of_below hb hB)
/-- Numbers that are written out. -/
theorem Is.lit (w : World) (l : List Int) (hl : l.length ≤ 1000) : Is (w.alloc (.cells (l.map (Value.int .i64)).toArray 3)) w.heap.size (w.heap.size + 1) (some ⟨w.heap.size, 0, none⟩) l.length l.length l := by
  refine ⟨rfl, Nat.le_refl _, by unfold maxLen; omega, fun _ => ⟨_, _, rfl, Nat.le_refl _, by omega, fun j hj => ?_⟩⟩
  rw [cell_of_row _ w.heap.size (0 + j) (l.map (Value.int .i64)).toArray 3 (0, 0) (heap_alloc_new w _), Nat.zero_add]
  simp [hj]
end

theorem wpList_append_int {P : Program} (w : World) {ops : Array Oper} {rest : List Oper} {o : Oper} {a : Act} {Q : Exit → Act → World → Prop} (hgd : o.guard = none) (s x : Operand) (t : TypeId)
    (ho : o.op = .call { callee := .builtin .append, args := #[s, x], argTypes := #[t, t] })
    (base : Nat) (i : TypeInfo) (ht : P.underlying t = some (.slice 3)) (hi : P.info? 3 = some i) (hz : i.zero = some (.int .i64 0))
    (hsize : i.size = 1) (hby : i.bytes = 8) (v : Value) (xs : List Int) (hs : a.eval s = v) (hown : OwnI w base v xs)
    (B : Nat) (z : Int) (hx : a.eval x = .slice (some ⟨B, 0, none⟩) 1 1) (hB : Blk w B 3 #[.int .i64 z])
    (hlen : xs.length ≤ 1073741824) (hbase : base ≤ w.heap.size)
    (h : ∀ v' w', OwnI w' base v' (xs ++ [z]) → Grew w w' v v' → wpList P ops Q rest (a.put o.dst v') w') : wpList P ops Q (o :: rest) a w := by
  refine wpList_append_own_at w hgd s x t ho base 3 i _ 1 8 ht hi hz hsize hby rfl (by omega) v xs.length (xs.map (Value.int .i64)) hs hown ⟨B, 0, none⟩ 1 1 [.int .i64 z] hx rfl (World.news_of_block hB) (by intro u hu; simp at hu; subst hu; rfl) (by unfold maxLen; omega) (by omega) hbase ?_
  intro v' w' h2 h3 _ h5
  refine h v' w' ?_ ⟨h3, h5.imp id fun e => ⟨_, e, Nat.le_refl _⟩⟩
  unfold OwnI
  rw [List.length_append, List.map_append]
  exact h2

set_option maxRecDepth 100000 in
set_option maxHeartbeats 1000000 in
theorem eqInts_any {w : World} {lo hi n c lo' hi' n' c' : Nat} {A A' : Option Addr} {l l' : List Int} (h : Is w lo hi A n c l) (h' : Is w lo' hi' A' n' c' l') (hn : n ≤ 1000000) :
    Calls Tryd.prog 17 #[.slice A n c, .slice A' n' c'] w fun e w' => e = .returned (.bool (l == l')) ∧ Below w.heap.size w w' := by
  have hl := h.1
  have hl' := h'.1
  obtain ⟨R, hR⟩ : ∃ R, R = (l == l') := ⟨_, rfl⟩
  rw [← hR]
  have HR := Lib.hid hR
  clear hR
  by_cases hnn : n = n'
  · subst hnn
    have hq : ((n : Int) != (n : Int)) = false := by simp
    have HL := Lib.hid hl
    have HL' := Lib.hid hl'
    clear hl hl'
    go_enter Tryd.func17, Tryd.ntmps17
    go_wp2_with fail
    go_loopw [5] (fun j wr => ∃ i : Nat, j = .int .i64 i ∧ i ≤ n ∧ l.take i = l'.take i ∧ (∃ d, wr = w.drewN d)) (fun j _ => n - (intOf j).toNat)
    case atStart => exact ⟨0, rfl, by omega, by simp, 0, rfl⟩
    case round =>
      obtain ⟨i, rfl, hin, htk, d, rfl⟩ := hrel
      have HT := Lib.hid htk
      clear htk
      by_cases hlt : i < n
      · obtain ⟨b, o, rfl, _, _, hc⟩ := h.2.2.2 (by omega)
        obtain ⟨b', o', rfl, _, _, hc'⟩ := h'.2.2.2 (by omega)
        have g1 := hc i (by have := HL.out; omega)
        have g2 := hc' i (by have := HL'.out; omega)
        have hi0' : (0 : Int) ≤ (i : Int) := by omega
        have hi1' : (i : Int) < (n : Int) := by omega
        obtain ⟨x, hx⟩ : ∃ x, l[i]'(by have := HL.out; omega) = x := ⟨_, rfl⟩
        obtain ⟨y, hy⟩ : ∃ y, l'[i]'(by have := HL'.out; omega) = y := ⟨_, rfl⟩
        rw [hx] at g1
        rw [hy] at g2
        have HX := Lib.hid hx
        have HY := Lib.hid hy
        clear hx hy hc hc' h h'
        by_cases hxy : x = y
        · have exy : (x != y) = false := by simp [hxy]
          have HXY := Lib.hid hxy
          clear hxy
          go_wp2_with fail
          go_region
          all_goals
            go_wp2_with fail
            go_roundw
            case rel =>
              refine ⟨i + 1, by go_num, by omega, ?_, d + 1, rfl⟩
              rw [List.take_succ_eq_append_getElem (by have := HL.out; omega), List.take_succ_eq_append_getElem (by have := HL'.out; omega), HT.out, HX.out, HY.out, HXY.out]
            case measure => simp [intOf]; omega
        · have exy : (x != y) = true := by simp [hxy]
          have HXY := Lib.hid hxy
          clear hxy
          go_wp2_with fail
          go_region
          all_goals
            go_wp2
            go_ret
            refine ⟨ret_bool ?_, ⟨rfl, rfl, rfl, Nat.le_refl _, fun _ _ => rfl⟩⟩
            rw [HR.out]
            cases hq : (l == l') with
            | false => rfl
            | true =>
              exfalso
              have e := eq_of_beq hq
              subst e
              exact HXY.out (HX.out.symm.trans HY.out)
      · go_wp2
        go_ret
        refine ⟨ret_bool ?_, ⟨rfl, rfl, rfl, Nat.le_refl _, fun _ _ => rfl⟩⟩
        have e := HT.out
        rw [List.take_of_length_le (by have := HL.out; omega), List.take_of_length_le (by have := HL'.out; omega)] at e
        rw [HR.out, e]; simp
  · have hq : ((n : Int) != (n' : Int)) = true := by simp; omega
    have HL := Lib.hid (And.intro hl (And.intro hl' hnn))
    clear hl hl' hnn
    go_enter Tryd.func17, Tryd.ntmps17
    go_wp2
    go_ret
    refine ⟨ret_bool ?_, Below.refl _ _⟩
    rw [HR.out]
    cases hq : (l == l') with
    | false => rfl
    | true =>
      exfalso
      have e := eq_of_beq hq
      subst e
      have := HL.out
      omega

/-- An answer of numbers, a place and an error. -/
def RunesP (w : World) (R : Nat × Int × List Int) (e : Ending) (w' : World) : Prop := ∃ v, e = .returned (.tuple #[v, .int .i64 R.2.1, .int .i64 R.1]) ∧ OwnI w' w.heap.size v R.2.2 ∧ Below w.heap.size w w'
def rusR (l : List UInt8) : Nat × Int × List Int := if 0 ≤ bkL 0 l then (20, bkL 0 l, []) else (0, 0, rnL l)

structure RnRel (w : World) (s : ByteArray) (k : Nat) (K : List Int) (v : Value) (pos : Nat) (acc : List Int) (wr : World) : Prop where
  it : wr.heap[k]? = some (.stringIter s pos)
  own : OwnI wr w.heap.size v acc
  fin : acc ++ rnL (s.data.toList.drop pos) = K
  bel : Below w.heap.size w wr
  lek : w.heap.size ≤ k
  few : acc.length ≤ pos

theorem RnRel.size {w wr : World} {s : ByteArray} {k : Nat} {K : List Int} {v : Value} {pos : Nat} {acc : List Int} (h : RnRel w s k K v pos acc wr) : k < wr.heap.size := (Array.getElem?_eq_some_iff.1 h.it).1
theorem iterAt_block {w : World} {k i : Nat} {s : ByteArray} {p : Nat} (h : i ≠ k) : (w.iterAt k s p).heap[i]? = w.heap[i]? := by
  unfold World.iterAt
  simp [Array.getElem?_setIfInBounds, Ne.symm h]
theorem iterAt_size {w : World} {k : Nat} {s : ByteArray} {p : Nat} : (w.iterAt k s p).heap.size = w.heap.size := by simp [World.iterAt]
theorem iterAt_self {w : World} {k : Nat} {s : ByteArray} {p : Nat} (h : k < w.heap.size) : (w.iterAt k s p).heap[k]? = some (.stringIter s p) := by
  unfold World.iterAt
  simp [Array.getElem?_setIfInBounds, h]
theorem RnRel.notrow {w wr : World} {s : ByteArray} {k : Nat} {K : List Int} {v : Value} {pos : Nat} {acc : List Int} (h : RnRel w s k K v pos acc wr) {g : Nat} (hg : v.ownBlock = some g) : g ≠ k := by
  rintro rfl
  obtain ⟨cs, e⟩ := h.own.row hg
  rw [h.it] at e; cases e
/-- The next rune is taken, and joined. -/
theorem rn_step {w wr w1 : World} {s : ByteArray} {k : Nat} {K : List Int} {v v1 : Value} {pos : Nat} {acc : List Int} {o : Obj} (h : RnRel w s k K v pos acc wr) (hp : pos < s.size) (hd : 1 ≤ (Utf8.decode s pos).2)
    (hown : OwnI w1 w.heap.size v1 (acc ++ [((Utf8.decode s pos).1 : Int)])) (hg : Grew ((wr.iterAt k s (pos + (Utf8.decode s pos).2)).alloc o) w1 v v1) : RnRel w s k K v1 (pos + (Utf8.decode s pos).2) (acc ++ [((Utf8.decode s pos).1 : Int)]) w1 := by
  have hk := h.size
  have hsz : ((wr.iterAt k s (pos + (Utf8.decode s pos).2)).alloc o).heap.size = wr.heap.size + 1 := by simp [iterAt_size]
  refine ⟨?_, hown, ?_, ?_, h.lek, by have := h.few; simp; omega⟩
  · rw [hg.1.block k (by omega) (fun e => h.notrow e.symm rfl), Below.heap_alloc _ _ _ (by rw [iterAt_size]; exact hk), iterAt_self hk]
  · rw [← h.fin, rnL_step _ (drop_ne hp), dec_eq, List.drop_drop, List.append_assoc]; rfl
  · have b1 : Below w.heap.size w (wr.iterAt k s (pos + (Utf8.decode s pos).2)) := ⟨h.bel.os, h.bel.tape, h.bel.output, by rw [iterAt_size]; exact h.bel.size, fun i hi => by rw [iterAt_block (by have := h.lek; omega)]; exact h.bel.block i hi⟩
    exact (b1.alloc b1.size o).trans (hg.below (by rw [hsz]; have := h.bel.size; omega) (fun g e => (h.own.lt e).1))

set_option maxRecDepth 100000 in
set_option maxHeartbeats 1000000 in
theorem runes_any {w : World} {lo hi n c : Nat} {A : Option Addr} {l : List UInt8} (hB : Bs w lo hi A n c l) (hn : n ≤ 1000000) :
    Calls Tryd.prog 13 #[.slice A n c] w (RunesP w (rusR l)) := by
  obtain ⟨i0, hi0, hz0, hz1, hz2⟩ := info_parts Tryd.info3
  have hcv := hB.convert (P := Tryd.prog) 22 5 9 Tryd.underlying22 Tryd.underlying5 Tryd.underlying9
  have hll := hB.len
  have hbr : bkL 0 l = -1 ∨ ((0 : Nat) : Int) ≤ bkL 0 l ∧ bkL 0 l < ((0 : Nat) : Int) + l.length := bkF_range l.length 0 l (Nat.le_refl _)
  obtain ⟨s, hs⟩ : ∃ s : ByteArray, s = ⟨l.toArray⟩ := ⟨_, rfl⟩
  have hsl : s.data.toList = l := by rw [hs]
  have hsz : s.size = n := by rw [hs]; show l.toArray.size = n; simpa using hll
  rw [← hs] at hcv
  have hb := brokenAt_any s w (by omega)
  rw [hsl] at hb
  have hR : rusR l = if 0 ≤ bkL 0 l then (20, bkL 0 l, []) else (0, 0, rnL l) := rfl
  obtain ⟨R, hRR⟩ : ∃ R, R = rusR l := ⟨_, rfl⟩
  rw [← hRR] at hR ⊢
  generalize bkL 0 l = q at *
  have HB := Lib.hid hb
  have HSL := Lib.hid hsl
  have HSZ := Lib.hid hsz
  have hsb : s.size ≤ 1000000 := by omega
  clear hb hsl hs hRR hsz hB hll
  by_cases h : 0 ≤ q
  · have HR := Lib.hid hR
    clear hR hbr
    go_enter Tryd.func13, Tryd.ntmps13
    go_wp2_with fail
    refine HB.out.mono ?_
    rintro e w1 ⟨rfl, hb1⟩
    go_wp2
    refine bodyPost_ret (v := .tuple #[.slice none 0 0, .int .i64 q, .int .i64 20]) (by simp [results, Tryd.results13, go_sem]) rfl ?_
    rw [HR.out, if_pos h]
    exact ⟨_, rfl, OwnI.nil _ _, hb1⟩
  · rw [if_neg h] at hR
    have hq : q < 0 := by omega
    have HR := Lib.hid hR
    obtain ⟨K, hK⟩ : ∃ K, K = rnL l := ⟨_, rfl⟩
    have HK := Lib.hid hK
    clear hR hbr h hK
    go_enter Tryd.func13, Tryd.ntmps13
    go_wp2_with fail
    refine HB.out.mono ?_
    rintro e w1 ⟨rfl, hb1⟩
    have hs1 := hb1.size
    have hst : RnRel w s w1.heap.size K (.slice none 0 0) 0 [] (w1.iter s 0) := ⟨World.iter_heap _ _ _, OwnI.nil _ _, by rw [List.drop_zero, List.nil_append, HSL.out]; exact HK.out.symm, hb1.alloc hs1 _, hs1, by simp⟩
    go_wp2
    go_loopw [2] (fun v wr => ∃ (pos : Nat) (acc : List Int), RnRel w s w1.heap.size K v pos acc wr) (fun _ wr => s.size - wr.iterPos w1.heap.size)
    case atStart => exact ⟨0, [], hst⟩
    case round =>
      obtain ⟨pos, acc, hrel⟩ := hrel
      clear hst
      have hit := hrel.it
      have hown := hrel.own
      have hkz := hrel.size
      have hfew := hrel.few
      have hbz := hrel.bel.size
      have HREL := Lib.hid hrel
      clear hrel
      by_cases hp : pos < s.size
      · have hnx : ∀ ty, (Instr.next (.pointer (some ⟨w1.heap.size, 0, none⟩)) true ty).run Tryd.prog wr = _ := fun ty => Lib.run_next_any_at wr w1.heap.size s pos ty hit hp
        have hwd := Lib.width_pos s pos
        have hrl := Lib.rune_le s pos
        have hmeas : wr.iterPos w1.heap.size = pos := by simp [World.iterPos, hit]
        have HM := Lib.hid hmeas
        have hown2 : OwnI (wr.iterAt w1.heap.size s (pos + (Utf8.decode s pos).2)) w.heap.size u2 acc := hown.kept fun g cs hg _ => iterAt_block (HREL.out.notrow hg)
        have hiz : (wr.iterAt w1.heap.size s (pos + (Utf8.decode s pos).2)).heap.size = wr.heap.size := iterAt_size
        have hblk : Blk ((wr.iterAt w1.heap.size s (pos + (Utf8.decode s pos).2)).alloc (.cells #[.int .i64 ((Utf8.decode s pos).1 : Int)] 3)) wr.heap.size 3 #[.int .i64 ((Utf8.decode s pos).1 : Int)] := by
          have := Blk.new (wr.iterAt w1.heap.size s (pos + (Utf8.decode s pos).2)) 3 #[.int .i64 ((Utf8.decode s pos).1 : Int)]
          rw [hiz] at this
          exact this
        have haz : w.heap.size ≤ ((wr.iterAt w1.heap.size s (pos + (Utf8.decode s pos).2)).alloc (.cells #[.int .i64 ((Utf8.decode s pos).1 : Int)] 3)).heap.size := by simp; omega
        have hacl : acc.length ≤ 1073741824 := by omega
        clear hmeas hit hown
        go_wp2_with (at_builtin; refine wpList_append_int _ rfl _ _ 24 rfl w.heap.size i0 Tryd.underlying24 hi0 hz0 hz1 hz2 _ acc rfl (hown2.alloc _) _ _ rfl hblk hacl haz ?_; intro v3 w3 hown3 hgrow3)
        have hst := rn_step HREL.out hp hwd hown3 hgrow3
        have hm2 : w3.iterPos w1.heap.size = pos + (Utf8.decode s pos).2 := by simp [World.iterPos, hst.it]
        go_roundw
        case rel => exact ⟨_, _, hst⟩
        case measure => rw [hm2, HM.out]; omega
      · have hnx : ∀ ty, (Instr.next (.pointer (some ⟨w1.heap.size, 0, none⟩)) true ty).run Tryd.prog wr = _ := fun ty => Lib.run_next_end_at wr w1.heap.size s pos ty hit hp
        have hfin := HREL.out.fin
        rw [List.drop_eq_nil_of_le (by simp; omega), rnL_nil, List.append_nil] at hfin
        have HF := Lib.hid hfin
        obtain ⟨A4, c4, rfl, _⟩ := hown.is
        clear hfin hown
        go_wp2
        refine bodyPost_ret (v := .tuple #[.slice A4 acc.length c4, .int .i64 0, .int .i64 0]) (by simp [results, Tryd.results13, go_sem]) rfl ?_
        rw [HR.out, ← HK.out, ← HF.out]
        exact ⟨_, rfl, HREL.out.own, HREL.out.bel⟩
end Go.Proofs.YtjophmgpknpboaaDoor
