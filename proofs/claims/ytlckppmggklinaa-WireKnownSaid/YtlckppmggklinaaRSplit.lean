/-
  The document's answer: Split.
-/
import Derived.Test.YtlckppmggklinaaRNext2
namespace Go.Proofs.Ytlckppmggklinaa
open Go.RowKit
set_option linter.unusedVariables false
attribute [local go_sem ↓] Go.wp_at_zero Go.wp_at_succ

theorem Blk.new2 (w : World) (o : Obj) (t : TypeId) (cs : Array Value) : Blk ((w.alloc o).alloc (.cells cs t)) (w.heap.size + 1) t cs := by
  have := Blk.new (w.alloc o) t cs
  simpa using this

def sLen : Value → Nat
  | .slice _ n _ => n
  | _ => 0

theorem Bs.from_ {w : World} {lo hi n c K : Nat} {A : Option Addr} {b o : Nat} {l : List UInt8} (h : Bs w lo hi (some ⟨b, o, none⟩) n c l) (hp : K ≤ n) (hA : A = if c - K = 0 then some ⟨b, o, none⟩ else some ⟨b, o + K, none⟩) : Bs w lo hi A (n - K) (c - K) (l.drop K) := by
  have := h.mid (K := K) (m := n - K) (by omega)
  have hl := h.len
  have hn := h.le
  rw [List.take_of_length_le (by simp; omega)] at this
  subst hA
  split
  · have e : n = K := by omega
    have e2 : l.drop K = [] := List.drop_eq_nil_of_le (by omega)
    rw [e2, e, Nat.sub_self]
    exact Bs.none_ _ _ _ _ this.cap
  · exact this

/-- The loop's state: the bytes that are left, the records so far in v. -/
structure SqRel (w : World) (lo hi n c : Nat) (A : Option Addr) (l : List UInt8) (F : Nat × List Rc) (v : Value) (acc : List Rc) (wr : World) : Prop where
  bs : Bs w lo hi A n c l
  own : OwnRecs wr w.heap.size v acc
  fin : comb acc (spL l) = F
  bel : Below w.heap.size w wr
  len : acc.length + n ≤ 1048576

theorem sq_step {w wr w1 w3 : World} {lo hi n c k b o : Nat} {A : Option Addr} {l : List UInt8} {F : Nat × List Rc} {acc : List Rc} {s : Rc} {u4 v3 : Value} {o1 o2 : Obj}
    (HB : Hid (Bs w lo hi (some ⟨b, o, none⟩) n c l)) (HF : Hid (comb acc (spL l) = F)) (HRR : Hid ((0, s, k) = nxR l)) (h0 : 0 < n) (hbel : Below w.heap.size w wr) (hacc : acc.length + n ≤ 1048576) (hb1 : Below wr.heap.size wr w1)
    (hown2 : OwnRecs (w1.alloc o1) w.heap.size u4 acc) (hA : A = if c - k = 0 then some ⟨b, o, none⟩ else some ⟨b, o + k, none⟩)
    (hown3 : OwnRecs w3 w.heap.size v3 (acc ++ [s])) (hgrow3 : Grew ((w1.alloc o1).alloc o2) w3 u4 v3) : SqRel w lo hi (n - k) (c - k) A (l.drop k) F v3 (acc ++ [s]) w3 := by
  have h := HRR.out
  have h1 : (nxR l).1 = 0 := by rw [← h]
  have h2 : (nxR l).2.1 = s := by rw [← h]
  have h3 : (nxR l).2.2 = k := by rw [← h]
  have hp := nxR_pos _ h1
  rw [h3] at hp
  have hl := HB.out.len
  have hs1 := hb1.size
  have hs0 := hbel.size
  refine ⟨HB.out.from_ (by omega) hA, hown3, ?_, ?_, by simp; omega⟩
  · have hne : l ≠ [] := by
      intro h; subst h; simp at hl; omega
    have := comb_ok acc l hne h1
    rw [h2, h3, HF.out] at this
    exact this.symm
  · have b1 : Below w.heap.size w w1 := hbel.trans (hb1.mono hs0)
    exact ((b1.alloc (by omega) o1).alloc (by simp; omega) o2).trans (hgrow3.below (by simp; omega) (fun g hg => hown2.block hg))

theorem sq_end {w wr : World} {n : Nat} {l : List UInt8} {F : Nat × List Rc} {acc : List Rc} {u4 : Value}
    (HF : Hid (comb acc (spL l) = F)) (hl : l.length = 0) (hbel : Below w.heap.size w wr) (hown : OwnRecs wr w.heap.size u4 acc) : SplitP w F (.returned (.tuple #[u4, .int .i64 0])) wr := by
  have hF : F = (0, acc) := by
    rw [← HF.out, List.length_eq_zero_iff.mp hl, spL_nil]; simp [comb]
  subst hF
  obtain ⟨A, c, rfl, h⟩ := hown.rs
  exact ⟨A, c, rfl, h, hbel⟩

set_option maxRecDepth 100000 in
set_option maxHeartbeats 400000 in
theorem rsplit_long {w : World} {lo hi n c : Nat} {A : Option Addr} {l : List UInt8} (hB : Bs w lo hi A n c l) (hn : 1048576 < n) (hn2 : n ≤ 2147483648) :
    Calls Try.prog 34 #[.slice A n c] w (SplitP w (spR l)) := by
  have hl := hB.len
  have e : spR l = (5, []) := by unfold spR; rw [if_pos (by omega)]
  rw [e]
  have hb : (1048576 : Int) < (n : Int) := by omega
  clear hl e
  go_enter Try.func34, Try.ntmps34
  go_wp2
  go_ret2
  exact ⟨none, 0, rfl, Rs.nil _ _ _ _ (by unfold maxLen; omega), Below.refl _ _⟩

set_option maxRecDepth 100000 in
set_option maxHeartbeats 1000000 in
theorem rsplit_short {w : World} {lo hi n c : Nat} {A : Option Addr} {l : List UInt8} (hB : Bs w lo hi A n c l) (hhi : hi ≤ w.heap.size) (hn : n ≤ 1048576) :
    Calls Try.prog 34 #[.slice A n c] w (SplitP w (spR l)) := by
  have hl := hB.len
  have e : spR l = spL l := by unfold spR; rw [if_neg (by omega)]
  obtain ⟨F, hF⟩ : ∃ F, F = spL l := ⟨_, rfl⟩
  rw [e, ← hF]
  have hst : SqRel w lo hi n c A l F (.slice none 0 0) [] w :=
    ⟨hB, ⟨[], ⟨rfl, .inl ⟨rfl, rfl⟩⟩, trivial⟩, by rw [comb_nil, hF], Below.refl _ _, by simpa using hn⟩
  obtain ⟨i0, hi0, hz0, hz1, hz2⟩ := info_parts Try.info34
  have hb : ¬ (1048576 : Int) < (n : Int) := by omega
  clear hl e hF hB
  go_enter Try.func34, Try.ntmps34
  go_wp2
  go_loopw [0, 4] (fun s v wr => ∃ (A : Option Addr) (n c : Nat) (l : List UInt8) (acc : List Rc), s = .slice A n c ∧ SqRel w lo hi n c A l F v acc wr) (fun s _ _ => sLen s)
  case atStart => exact ⟨A, n, c, l, [], rfl, hst⟩
  case round =>
    obtain ⟨A, n, c, l, acc, rfl, hbs, hown, hfin, hbel, hacc⟩ := hrel
    clear hst
    have HF := Lib.hid hfin
    have hl := hbs.len
    clear hfin
    by_cases hlt : 0 < n
    · obtain ⟨b, o, rfl, _, _, _⟩ := hbs.at_ hlt
      have hlt' : (0 : Int) < (n : Int) := by omega
      have hv := rnext_any (hbs.below hbel hhi) (Nat.le_trans hhi hbel.size) (by omega)
      obtain ⟨R, hR⟩ : ∃ R, R = nxR l := ⟨_, rfl⟩
      rw [← hR] at hv
      have HV := Lib.hid hv
      have HRR := Lib.hid hR
      have HB := Lib.hid hbs
      have hcap := hbs.le
      clear hv hR hbs
      obtain ⟨e, s, k⟩ := R
      by_cases he : e = 0
      · subst he
        have hk := nxR_pos l (by rw [← HRR.out])
        rw [← HRR.out] at hk
        have hk0 := hk.1
        have hk1 := hk.2.1
        simp only at hk0 hk1
        clear hk
        have i1 : (k : Int) ≤ (n : Int) := by omega
        have i2 : (n : Int) ≤ (c : Int) := by omega
        go_wp2_with fail
        refine HV.out.mono ?_
        rintro e w1 ⟨v, rfl, ⟨vb, vr, rfl, hob, how⟩, hb1⟩
        simp only at hob how
        obtain ⟨Ab, cb, rfl, _⟩ := hob.bs
        obtain ⟨Ar, cr, rfl, _⟩ := how.bs
        have hs0 := hbel.size
        have hs1 := hb1.size
        have hown2 : OwnRecs (w1.alloc (.cells #[.int .i64 s.num, .int .i64 s.wire, .int .u64 s.n, .slice Ab s.b.length cb, .slice Ar s.raw.length cr] 34)) w.heap.size u4 acc := (hown.below hb1).alloc _
        have hor1 : OwnRec w1 w.heap.size (.agg #[.int .i64 s.num, .int .i64 s.wire, .int .u64 s.n, .slice Ab s.b.length cb, .slice Ar s.raw.length cr]) s := ⟨_, _, rfl, hob.base_ (by omega), how.base_ (by omega)⟩
        have hor2 : OwnRec (w1.alloc (.cells #[.int .i64 s.num, .int .i64 s.wire, .int .u64 s.n, .slice Ab s.b.length cb, .slice Ar s.raw.length cr] 34)) w.heap.size (.agg #[.int .i64 s.num, .int .i64 s.wire, .int .u64 s.n, .slice Ab s.b.length cb, .slice Ar s.raw.length cr]) s := hor1.kept (fun g u l hu hg => Below.heap_alloc _ _ _ (hu.lt hg).2)
        clear hob how hor1
        by_cases hcK : c - k = 0
        all_goals
          go_wp2_with (at_builtin; refine wpList_append_rec _ rfl _ _ 44 rfl w.heap.size i0 Try.underlying44 hi0 hz0 hz1 hz2 _ acc rfl (hown2.alloc _) _ _ _ _ _ _ s rfl (Blk.new2 _ _ _ _) (hor2.kept (fun g u l hu hg => Below.heap_alloc _ _ _ (hu.lt hg).2)) (by omega) (by simp <;> omega) ?_; intro v3 w3 hown3 hgrow3)
          have HSt := Lib.hid (sq_step HB HF HRR hlt hbel hacc hb1 hown2 rfl hown3 hgrow3)
          simp only [hcK, if_true, if_false] at HSt
          exact ⟨⟨_, _, _, _, _, rfl, HSt.out⟩, by simp only [sLen]; omega⟩
      · have hne : ((e : Int) != 0) = true := by simp; omega
        have HE := Lib.hid he
        clear he
        go_wp2_with fail
        refine HV.out.mono ?_
        rintro e w1 ⟨v, rfl, ⟨vb, vr, rfl, hob, how⟩, hb1⟩
        simp only at hob how
        obtain ⟨Ab, cb, rfl, _⟩ := hob.bs
        obtain ⟨Ar, cr, rfl, _⟩ := how.bs
        clear hob how
        go_wp2
        go_ret2
        exact sp_bad (p := 0) (l := l) HF HRR HE hl hlt ((hbel.trans (hb1.mono hbel.size)).alloc (Nat.le_trans hbel.size hb1.size) _)
    · go_wp2
      go_ret2
      exact sq_end (n := n) HF (by omega) hbel hown

theorem rsplit_any {w : World} {lo hi n c : Nat} {A : Option Addr} {l : List UInt8} (hB : Bs w lo hi A n c l) (hhi : hi ≤ w.heap.size) (hn : n ≤ 2147483648) :
    Calls Try.prog 34 #[.slice A n c] w (SplitP w (spR l)) := by
  by_cases h : n ≤ 1048576
  · exact rsplit_short hB hhi h
  · exact rsplit_long hB (by omega) hn
end Go.Proofs.Ytlckppmggklinaa
