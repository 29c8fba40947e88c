/-
  Split.
-/
import Derived.Test.YtlckppmggklinaaLists
namespace Go.Proofs.Ytlckppmggklinaa
open Go.RowKit
set_option linter.unusedVariables false

theorem Try.info34 : (Try.prog.info? 34).map (fun i => (i.zero, i.size, i.bytes)) = some (some (.agg #[.int .i64 0, .int .i64 0, .int .u64 0, .slice none 0 0, .slice none 0 0]), 5, 72) := by kernel_rfl


theorem OwnRecs.kept {w w' : World} {base : Nat} {v : Value} {rs : List Rc} (h : OwnRecs w base v rs) (k : ∀ i, base ≤ i → i < w.heap.size → w'.heap[i]? = w.heap[i]?) (hs : w.heap.size ≤ w'.heap.size) : OwnRecs w' base v rs := by
  obtain ⟨vs, h1, h2⟩ := h
  refine ⟨vs, ⟨h1.1, ?_⟩, h2.kept fun g u l hu hg => k g (hu.lt hg).1 (hu.lt hg).2⟩
  rcases h1.2 with h | ⟨g, cap, cur, rfl, hb, hh, r⟩
  · exact .inl h
  · have hlt : g < w.heap.size := by
      rcases Nat.lt_or_ge g w.heap.size with hlt | hge
      · exact hlt
      · rw [Array.getElem?_eq_none hge] at hh; cases hh
    exact .inr ⟨g, cap, cur, rfl, hb, by rw [k g hb hlt]; exact hh, r⟩
theorem OwnRecs.alloc {w : World} {base : Nat} {v : Value} {rs : List Rc} (h : OwnRecs w base v rs) (o : Obj) : OwnRecs (w.alloc o) base v rs :=
  h.kept (fun i _ hi => Below.heap_alloc w o i hi) (by simp)
theorem OwnRecs.below {w w' : World} {base : Nat} {v : Value} {rs : List Rc} (h : OwnRecs w base v rs) (hb : Below w.heap.size w w') : OwnRecs w' base v rs :=
  h.kept (fun i _ hi => hb.block i hi) hb.size
theorem OwnRecs.only {w w' : World} {base g : Nat} {v : Value} {rs : List Rc} (h : OwnRecs w base v rs) (hb : w.grownBy w' (some g)) (hg : g < base) : OwnRecs w' base v rs :=
  h.kept (fun i h1 hi => hb.block i hi (fun e => by injection e with e; omega)) hb.size

section
variable {P : Program} (w : World)
theorem wpList_append_rec {ops : Array Oper} {rest : List Oper} {o : Oper} {a : Act} {Q : Exit → Act → World → Prop} (hgd : o.guard = none) (s x : Operand) (t : TypeId)
    (ho : o.op = .call { callee := .builtin .append, args := #[s, x], argTypes := #[t, t] })
    (base : Nat) (i : TypeInfo) (ht : P.underlying t = some (.slice 34)) (hi : P.info? 34 = some i) (hz : i.zero = some (.agg #[.int .i64 0, .int .i64 0, .int .u64 0, .slice none 0 0, .slice none 0 0]))
    (hsize : i.size = 5) (hby : i.bytes = 72) (v : Value) (rs : List Rc) (hs : a.eval s = v) (hown : OwnRecs w base v rs)
    (B : Nat) (c0 c1 c2 c3 c4 : Value) (r : Rc) (hx : a.eval x = .slice (some ⟨B, 0, none⟩) 1 1) (hB : Blk w B 34 #[c0, c1, c2, c3, c4]) (hr : OwnRec w base (.agg #[c0, c1, c2, c3, c4]) r)
    (hlen : rs.length ≤ 1073741824) (hbase : base ≤ w.heap.size)
    (h : ∀ v' w', OwnRecs w' base v' (rs ++ [r]) → Grew w w' v v' → wpList P ops Q rest (a.put o.dst v') w') : wpList P ops Q (o :: rest) a w := by
  obtain ⟨vs, hrow, hall⟩ := hown
  have hone : ∀ u ∈ [c0, c1, c2, c3, c4], u.oneCell' = true := by
    obtain ⟨vb, vr, e, hb, hw⟩ := hr
    obtain ⟨_, _, rfl, _⟩ := hb.bs
    obtain ⟨_, _, rfl, _⟩ := hw.bs
    injection e with e
    simp only [Array.mk.injEq, List.cons.injEq, and_true] at e
    obtain ⟨rfl, rfl, rfl, rfl, rfl⟩ := e
    intro u hu
    simp only [List.mem_cons, List.mem_nil_iff, or_false] at hu
    rcases hu with rfl | rfl | rfl | rfl | rfl <;> rfl
  refine wpList_append_own_at w hgd s x t ho base 34 i _ 5 72 ht hi hz hsize hby rfl (by omega) v rs.length (flat vs) hs hrow ⟨B, 0, none⟩ 1 1 [c0, c1, c2, c3, c4] hx rfl (World.news_of_block hB) hone (by unfold maxLen; omega) (by omega) hbase ?_
  intro v' w' h2 h3 _ h5
  refine h v' w' ⟨vs ++ [.agg #[c0, c1, c2, c3, c4]], ?_, ?_⟩ ⟨h3, h5.imp id fun e => ⟨_, e, Nat.le_refl _⟩⟩
  · rw [flat_snoc, List.length_append]; exact h2
  · refine AllOwn.snoc (hr.kept fun g u l hu hg => h3.block g (hu.lt hg).2 (Ne.symm (own_ne hu hrow hg))) (hall.kept fun g u l hu hg => h3.block g (hu.lt hg).2 (Ne.symm (own_ne hu hrow hg)))
end

theorem bdR_b (x : Nat) (l : List UInt8) : (bdR x l).2.2.1.length ≤ l.length := by
  unfold bdR
  by_cases h0 : x = 0
  · rw [if_pos h0]; simp
  rw [if_neg h0]
  by_cases h1 : x = 1
  · rw [if_pos h1]; unfold fxR
    by_cases hl : l.length < 8
    · rw [if_pos hl]; simp
    · rw [if_neg hl]; simp
  rw [if_neg h1]
  by_cases h2 : x = 2
  · rw [if_pos h2]; unfold ctR; simp only
    by_cases a1 : (rv l 0 0).1 ≠ 0
    · rw [if_pos a1]; simp
    rw [if_neg a1]
    by_cases a2 : 1048576 < (rv l 0 0).2.1
    · rw [if_pos a2]; simp
    rw [if_neg a2]
    by_cases a3 : l.length < (rv l 0 0).2.2 + (rv l 0 0).2.1
    · rw [if_pos a3]; simp
    rw [if_neg a3]; simp only [List.length_take, List.length_drop]; omega
  rw [if_neg h2]
  by_cases h5 : x = 5
  · rw [if_pos h5]; unfold fxR
    by_cases hl : l.length < 4
    · rw [if_pos hl]; simp
    · rw [if_neg hl]; simp
  rw [if_neg h5]; simp
theorem nxR_b (l : List UInt8) : (nxR l).2.1.b.length ≤ l.length ∧ (nxR l).2.1.raw.length ≤ l.length := by
  unfold nxR
  by_cases a1 : (rv l 0 0).1 ≠ 0
  · rw [if_pos a1]; simp [Rc.zero]
  rw [if_neg a1]
  by_cases a2 : (rv l 0 0).2.1 / 8 = 0 ∨ 536870911 < (rv l 0 0).2.1 / 8
  · rw [if_pos a2]; simp [Rc.zero]
  rw [if_neg a2]
  by_cases a3 : (bdR ((rv l 0 0).2.1 % 8) (l.drop (rv l 0 0).2.2)).1 ≠ 0
  · rw [if_pos a3]; simp [Rc.zero]
  rw [if_neg a3]
  have := bdR_b ((rv l 0 0).2.1 % 8) (l.drop (rv l 0 0).2.2)
  simp only [List.length_drop] at this
  refine ⟨by simp only; omega, by simp only [List.length_take]; omega⟩

def spMeas (g n : Nat) (w : World) : Nat := match w.cell? ⟨g, 1, none⟩ with | some (.int _ x) => n - x.toNat | _ => 0
theorem spMeas_rd {w : World} {g n m c p : Nat} {A : Option Addr} (h : Rd w g A m c p) : spMeas g n w = n - p := by
  have e : w.cell? ⟨g, 1, none⟩ = some (.int .i64 (p : Int)) := h.cell 1
  unfold spMeas; rw [e]; simp

def SplitP (w : World) (R : Nat × List Rc) (e : Ending) (w' : World) : Prop :=
  ∃ A c, e = .returned (.tuple #[.slice A R.2.length c, .int .i64 R.1]) ∧ Rs w' w.heap.size w'.heap.size A R.2.length c R.2 ∧ Below w.heap.size w w'

/-- The loop's state: the reader in block g, the records so far in v. -/
structure SpRel (w : World) (g : Nat) (A : Option Addr) (n c : Nat) (l : List UInt8) (F : Nat × List Rc) (v : Value) (p : Nat) (acc : List Rc) (wr : World) : Prop where
  rd : Rd wr g A n c p
  own : OwnRecs wr (g + 1) v acc
  fin : comb acc (spL (l.drop p)) = F
  bel : Below g w wr
  len : acc.length ≤ p

theorem OwnRecs.block {w : World} {base : Nat} {v : Value} {rs : List Rc} (h : OwnRecs w base v rs) {g : Nat} (hg : v.ownBlock = some g) : base ≤ g := by
  obtain ⟨vs, h1, _⟩ := h
  exact (h1.lt g hg).1

theorem sp_step {w wr w1 w2 w3 : World} {n c p k : Nat} {A : Option Addr} {l : List UInt8} {F : Nat × List Rc} {acc : List Rc} {s : Rc} {u4 v3 : Value} {o1 o2 : Obj}
    (HF : Hid (comb acc (spL (l.drop p)) = F)) (HRR : Hid ((0, s, k) = nxR (l.drop p))) (hl : l.length = n) (hlt : p < n) (hbel : Below w.heap.size w wr) (hgl : w.heap.size < wr.heap.size) (hacc : acc.length ≤ p)
    (HR1 : Hid (Rd w1 w.heap.size A n c (p + k))) (hG1 : wr.grownBy w1 (some w.heap.size)) (hb2 : Below (w1.alloc o1).heap.size (w1.alloc o1) w2) (hown2 : OwnRecs w2 (w.heap.size + 1) u4 acc)
    (hown3 : OwnRecs w3 (w.heap.size + 1) v3 (acc ++ [s])) (hgrow3 : Grew (w2.alloc o2) w3 u4 v3) : SpRel w w.heap.size A n c l F v3 (p + k) (acc ++ [s]) w3 := by
  have h := HRR.out
  have h1 : (nxR (l.drop p)).1 = 0 := by rw [← h]
  have h2 : (nxR (l.drop p)).2.1 = s := by rw [← h]
  have h3 : (nxR (l.drop p)).2.2 = k := by rw [← h]
  have hp := nxR_pos _ h1
  rw [h3] at hp
  have hs1 : wr.heap.size ≤ w1.heap.size := hG1.size
  have hs2 : w1.heap.size + 1 ≤ w2.heap.size := by have := hb2.size; simpa using this
  have hrow : ∀ g, u4.ownBlock = some g → w.heap.size + 1 ≤ g := fun g hg => hown2.block hg
  refine ⟨?_, hown3, ?_, ?_, by simp; omega⟩
  · refine Blk.grown (((HR1.out.alloc o1).below hb2 (by simp <;> omega)).alloc o2) hgrow3.1 (fun e => ?_)
    have := hrow _ e.symm
    omega
  · have hne : l.drop p ≠ [] := by
      intro h; have := congrArg List.length h; simp at this; omega
    have := comb_ok acc (l.drop p) hne h1
    rw [h2, h3, List.drop_drop, HF.out] at this
    exact this.symm
  · have b1 : Below w.heap.size w w1 := hbel.trans (Below.of_only hG1 hbel.size (Nat.le_refl _))
    have b2 : Below w.heap.size w w2 := (b1.alloc (by omega) o1).trans (hb2.mono (by simp <;> omega))
    exact (b2.alloc (by omega) o2).trans (hgrow3.below (by simp <;> omega) (fun g hg => by have := hrow g hg; omega))

theorem sp_meas {w w1 : World} {g n c p k : Nat} {A : Option Addr} {l : List UInt8} {F : Nat × List Rc} {v : Value} {acc : List Rc} {wr : World} (HR : Hid (Rd wr g A n c p)) (h : SpRel w g A n c l F v (p + k) acc w1) (hlt : p < n) (hk : 0 < k) : spMeas g n w1 < spMeas g n wr := by
  rw [spMeas_rd HR.out, spMeas_rd h.rd]; omega

theorem sp_end {w wr : World} {n p : Nat} {l : List UInt8} {F : Nat × List Rc} {acc : List Rc} {u4 : Value}
    (HF : Hid (comb acc (spL (l.drop p)) = F)) (hl : l.length = n) (hlt : ¬ p < n) (hbel : Below w.heap.size w wr) (hown : OwnRecs wr (w.heap.size + 1) u4 acc) : SplitP w F (.returned (.tuple #[u4, .int .i64 0])) wr := by
  have hF : F = (0, acc) := by
    rw [← HF.out, List.drop_eq_nil_of_le (by omega), spL_nil]; simp [comb]
  subst hF
  obtain ⟨A, c, rfl, h⟩ := hown.rs
  exact ⟨A, c, rfl, h.mono (by omega) (Nat.le_refl _), hbel⟩

theorem sp_bad {w W : World} {n p e k : Nat} {s : Rc} {l : List UInt8} {F : Nat × List Rc} {acc : List Rc}
    (HF : Hid (comb acc (spL (l.drop p)) = F)) (HRR : Hid ((e, s, k) = nxR (l.drop p))) (HE : Hid (¬ e = 0)) (hl : l.length = n) (hlt : p < n) (hbel : Below w.heap.size w W) : SplitP w F (.returned (.tuple #[.slice none 0 0, .int .i64 e])) W := by
  have h1 : (nxR (l.drop p)).1 = e := by rw [← HRR.out]
  have hne : l.drop p ≠ [] := by
    intro h; have := congrArg List.length h; simp at this; omega
  have hF : F = (e, []) := by
    rw [← HF.out, comb_bad acc _ hne (by rw [h1]; exact HE.out), h1]
  subst hF
  exact ⟨none, 0, rfl, Rs.nil _ _ _ _ (by unfold maxLen; omega), hbel⟩

set_option maxRecDepth 100000 in
set_option maxHeartbeats 400000 in
theorem split_long {w : World} {lo hi n c : Nat} {A : Option Addr} {l : List UInt8} (hB : Bs w lo hi A n c l) (hn : 1048576 < n) (hn2 : n ≤ 2147483648) :
    Calls Try.prog 33 #[.slice A n c] w (SplitP w (spR l)) := by
  have hl := hB.len
  have e : spR l = (5, []) := by unfold spR; rw [if_pos (by omega)]
  rw [e]
  have hb : (1048576 : Int) < (n : Int) := by omega
  clear hl e
  go_enter Try.func33, Try.ntmps33
  go_wp2
  go_ret2
  exact ⟨none, 0, rfl, Rs.nil _ _ _ _ (by unfold maxLen; omega), Below.refl _ _⟩

set_option maxRecDepth 100000 in
set_option maxHeartbeats 1000000 in
theorem split_short {w : World} {lo hi n c : Nat} {A : Option Addr} {l : List UInt8} (hB : Bs w lo hi A n c l) (hhi : hi ≤ w.heap.size) (hn : n ≤ 1048576) :
    Calls Try.prog 33 #[.slice A n c] w (SplitP w (spR l)) := by
  have hl := hB.len
  have e : spR l = spL l := by unfold spR; rw [if_neg (by omega)]
  obtain ⟨F, hF⟩ : ∃ F, F = spL l := ⟨_, rfl⟩
  rw [e, ← hF]
  have hst : SpRel w w.heap.size A n c l F (.slice none 0 0) 0 [] (w.alloc (.cells #[.slice A n c, .int .i64 0] 70)) :=
    ⟨Blk.new _ _ _, ⟨[], ⟨rfl, .inl ⟨rfl, rfl⟩⟩, trivial⟩, by rw [List.drop_zero, comb_nil, hF], (Below.refl _ _).alloc (Nat.le_refl _) _, Nat.le_refl _⟩
  obtain ⟨i0, hi0, hz0, hz1, hz2⟩ := info_parts Try.info34
  have hb : ¬ (1048576 : Int) < (n : Int) := by omega
  clear hl e hF
  go_enter Try.func33, Try.ntmps33
  go_wp2
  go_loopw [4] (fun v wr => ∃ (p : Nat) (acc : List Rc), p ≤ n ∧ SpRel w w.heap.size A n c l F v p acc wr) (fun _ wr => spMeas w.heap.size n wr)
  case atStart => exact ⟨0, [], by omega, hst⟩
  case round =>
    obtain ⟨p, acc, hpn, hrd, hown, hfin, hbel, hacc⟩ := hrel
    clear hst
    have HR := Lib.hid hrd
    have HF := Lib.hid hfin
    have hc1 : wr.cell? ⟨w.heap.size, 1, none⟩ = some (.int .i64 (p : Int)) := hrd.cell 1
    have hgl := hrd.lt
    clear hrd hfin
    by_cases hlt : p < n
    · have hv := record_any HR.out (hB.below hbel hhi) hhi hpn (by omega)
      obtain ⟨R, hR⟩ : ∃ R, R = nxR (l.drop p) := ⟨_, rfl⟩
      rw [← hR] at hv
      have HV := Lib.hid hv
      have HRR := Lib.hid hR
      clear hv hR
      obtain ⟨e, s, k⟩ := R
      by_cases he : e = 0
      · subst he
        go_wp2_with fail
        refine HV.out.mono ?_
        rintro e w1 ⟨v, p1, rfl, ⟨B, m, d, B', m', d', rfl, hsb, hsw⟩, hR1, hG1, hp1, hp2⟩
        have hp3 := hp1 rfl
        simp only at hp3 hsb hsw
        subst hp3
        have HR1 := Lib.hid hR1
        clear hp1 hR1
        have hs1 : wr.heap.size ≤ w1.heap.size := hG1.size
        have hsl : s.b.length ≤ l.length ∧ s.raw.length ≤ l.length := by
          have h := nxR_b (l.drop p)
          rw [← HRR.out] at h
          simp only [List.length_drop] at h
          omega
        have hll := hB.len
        have hzb : w.heap.size ≤ wr.heap.size := hbel.size
        have hcp := copy_any (r := s) (hsb.alloc (by omega) (.cells #[.int .i64 s.num, .int .i64 s.wire, .int .u64 s.n, .slice B m d, .slice B' m' d'] 34)) (hsw.alloc (by omega) _) (by simp <;> omega) (by omega) (by omega)
        have HC := Lib.hid hcp
        clear hcp hsl hll hsb hsw
        go_wp2_with fail
        refine HC.out.mono ?_
        rintro e w2 ⟨v2, rfl, hor, hb2⟩
        obtain ⟨vb, vr, rfl, hob, how⟩ := hor
        obtain ⟨Ab, cb, rfl, _⟩ := hob.bs
        obtain ⟨Ar, cr, rfl, _⟩ := how.bs
        have hs2 : w1.heap.size + 1 ≤ w2.heap.size := by have := hb2.size; simpa using this
        have hown2 : OwnRecs w2 (w.heap.size + 1) u4 acc := ((hown.only hG1 (by omega)).alloc _).below hb2
        have hor2 : OwnRec w2 (w.heap.size + 1) (.agg #[.int .i64 s.num, .int .i64 s.wire, .int .u64 s.n, .slice Ab s.b.length cb, .slice Ar s.raw.length cr]) s := ⟨_, _, rfl, hob.base_ (by simp <;> omega), how.base_ (by simp <;> omega)⟩
        clear hob how
        go_wp2_with (at_builtin; refine wpList_append_rec _ rfl _ _ 44 rfl (w.heap.size + 1) i0 Try.underlying44 hi0 hz0 hz1 hz2 _ acc rfl (hown2.alloc _) _ _ _ _ _ _ s rfl (Blk.new _ _ _) (hor2.kept (fun g u l hu hg => Below.heap_alloc _ _ _ (hu.lt hg).2)) (by omega) (by simp <;> omega) ?_; intro v3 w3 hown3 hgrow3)
        go_roundw
        case rel => exact ⟨p + k, _, hp2, sp_step HF HRR hB.len hlt hbel hgl hacc HR1 hG1 hb2 hown2 hown3 hgrow3⟩
        case measure =>
          have hk : 0 < k := by
            have h := (nxR_pos (l.drop p) (by rw [← HRR.out])).1
            rw [← HRR.out] at h; exact h
          exact sp_meas HR (sp_step HF HRR hB.len hlt hbel hgl hacc HR1 hG1 hb2 hown2 hown3 hgrow3) hlt hk
      · have hne : ((e : Int) != 0) = true := by simp; omega
        have HE := Lib.hid he
        clear he
        go_wp2_with fail
        refine HV.out.mono ?_
        rintro e w1 ⟨v, p1, rfl, ⟨B, m, d, B', m', d', rfl, hsb, hsw⟩, hR1, hG1, hp1, hp2⟩
        clear hp1 hR1 hsb hsw
        go_wp2
        go_ret2
        exact sp_bad HF HRR HE hB.len hlt ((hbel.trans (Below.of_only hG1 hbel.size (Nat.le_refl _))).alloc (Nat.le_trans hbel.size hG1.size) _)
    · go_wp2
      go_ret2
      exact sp_end HF hB.len hlt hbel hown

theorem split_any {w : World} {lo hi n c : Nat} {A : Option Addr} {l : List UInt8} (hB : Bs w lo hi A n c l) (hhi : hi ≤ w.heap.size) (hn : n ≤ 2147483648) :
    Calls Try.prog 33 #[.slice A n c] w (SplitP w (spR l)) := by
  by_cases h : n ≤ 1048576
  · exact split_short hB hhi h
  · exact split_long hB (by omega) hn
end Go.Proofs.Ytlckppmggklinaa
