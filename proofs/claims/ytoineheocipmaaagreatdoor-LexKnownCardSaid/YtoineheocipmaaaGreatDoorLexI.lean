/-
  lex: words of any numbers, in memory: lists of them that can be read, and lists of the call's own.
-/
import Derived.Test.YtoineheocipmaaaGreatDoorLexRS
namespace Go.Proofs.YtoineheocipmaaaGreatDoor
open Go.RowKit
set_option linter.unusedVariables false
set_option linter.unusedSimpArgs false

structure Wi where
  k : Int
  p : Int
  t : ByteArray
  n : Int
def Wi.cs (x : Wi) : List Value := [.int .i64 x.k, .int .i64 x.p, .string x.t, .int .i64 x.n]
def ics (l : List Wi) : List Value := l.flatMap Wi.cs
theorem ics_snoc (l : List Wi) (x : Wi) : ics (l ++ [x]) = ics l ++ x.cs := by simp [ics]
theorem ics_len : ∀ l : List Wi, (ics l).length = l.length * 4
  | [] => rfl
  | x :: l => by
    have e : ics (x :: l) = x.cs ++ ics l := rfl
    rw [e, List.length_append, ics_len l]
    simp [Wi.cs]; omega
theorem ics_at : ∀ (l : List Wi) (i : Nat) (h : i < l.length), (ics l)[i * 4]? = some (.int .i64 l[i].k) ∧ (ics l)[i * 4 + 1]? = some (.int .i64 l[i].p) ∧ (ics l)[i * 4 + 2]? = some (.string l[i].t) ∧ (ics l)[i * 4 + 3]? = some (.int .i64 l[i].n)
  | x :: l, 0, _ => ⟨rfl, rfl, rfl, rfl⟩
  | x :: l, i + 1, h => by
    have ih := ics_at l i (by simpa using h)
    have e : ics (x :: l) = x.cs ++ ics l := rfl
    have g : ∀ d, (x.cs ++ ics l)[(i + 1) * 4 + d]? = (ics l)[i * 4 + d]? := fun d => by
      rw [List.getElem?_append_right (by simp [Wi.cs]; omega)]
      congr 1
      simp [Wi.cs]; omega
    rw [e]
    exact ⟨(g 0).trans ih.1, (g 1).trans ih.2.1, (g 2).trans ih.2.2.1, (g 3).trans ih.2.2.2⟩
def Wd.i (x : Wd) : Wi := ⟨x.k, x.p, x.t, x.n⟩
theorem wcs_ics (l : List Wd) : wcs l = ics (l.map Wd.i) := by
  induction l with
  | nil => rfl
  | cons x l ih =>
    have e : wcs (x :: l) = x.cs ++ wcs l := rfl
    have e2 : ics ((x :: l).map Wd.i) = x.i.cs ++ ics (l.map Wd.i) := rfl
    rw [e, e2, ih]; rfl
/-- v is a list of words of the call's own. -/
def OwnI (w : World) (base : Nat) (v : Value) (l : List Wi) : Prop := w.ownsRow base 33 4 v l.length (ics l)
theorem OwnW.i {w : World} {base : Nat} {v : Value} {l : List Wd} (h : OwnW w base v l) : OwnI w base v (l.map Wd.i) := by
  unfold OwnI
  rw [← wcs_ics, List.length_map]
  exact h
theorem OwnI.nil (w : World) (base : Nat) : OwnI w base (.slice none 0 0) [] := ⟨rfl, .inl ⟨rfl, rfl⟩⟩
theorem OwnI.kept {w w' : World} {base : Nat} {v : Value} {l : List Wi} (h : OwnI w base v l) (k : ∀ g, v.ownBlock = some g → w'.heap[g]? = w.heap[g]?) : OwnI w' base v l := by
  refine ⟨h.1, ?_⟩
  rcases h.2 with h | ⟨g, cap, cur, rfl, hb, hh, r⟩
  · exact .inl h
  · exact .inr ⟨g, cap, cur, rfl, hb, by rw [k g rfl]; exact hh, r⟩
theorem OwnI.lt {w : World} {base : Nat} {v : Value} {l : List Wi} (h : OwnI w base v l) {g : Nat} (hg : v.ownBlock = some g) : base ≤ g ∧ g < w.heap.size := by
  rcases h.2 with ⟨rfl, _⟩ | ⟨g', cap, cur, rfl, hb, hh, r⟩
  · cases hg
  · have : g' = g := by simpa [Value.ownBlock] using hg
    subst this
    refine ⟨hb, ?_⟩
    rcases Nat.lt_or_ge g' w.heap.size with hlt | hge
    · exact hlt
    · rw [Array.getElem?_eq_none hge] at hh; cases hh
theorem OwnI.below {w w' : World} {base : Nat} {v : Value} {l : List Wi} (h : OwnI w base v l) (hb : Below w.heap.size w w') : OwnI w' base v l := h.kept fun g hg => hb.block g (h.lt hg).2
theorem OwnI.drew {w : World} {base : Nat} {v : Value} {l : List Wi} (h : OwnI w base v l) : OwnI w.drew base v l := h
theorem OwnI.drewN {w : World} {base : Nat} {v : Value} {l : List Wi} (h : OwnI w base v l) (m : Nat) : OwnI (w.drewN m) base v l := h
theorem OwnI.base_ {w : World} {base base' : Nat} {v : Value} {l : List Wi} (h : OwnI w base v l) (hb : base' ≤ base) : OwnI w base' v l := by
  refine ⟨h.1, ?_⟩
  rcases h.2 with h | ⟨g, cap, cur, rfl, hg, r⟩
  · exact .inl h
  · exact .inr ⟨g, cap, cur, rfl, by omega, r⟩
/-- A list of words that can be read, in blocks below hi. -/
def RdI (w : World) (hi : Nat) (v : Value) (l : List Wi) : Prop := ∃ A c, v = .slice A l.length c ∧ l.length ≤ c ∧ c ≤ maxLen ∧ (0 < l.length → ∃ g o, A = some ⟨g, o, none⟩ ∧ g < hi ∧ ∀ i (h : i < l.length),
  w.cell? ⟨g, o + i * 4, none⟩ = some (.int .i64 l[i].k) ∧ w.cell? ⟨g, o + i * 4 + 1, none⟩ = some (.int .i64 l[i].p) ∧ w.cell? ⟨g, o + i * 4 + 2, none⟩ = some (.string l[i].t) ∧ w.cell? ⟨g, o + i * 4 + 3, none⟩ = some (.int .i64 l[i].n))
theorem OwnI.rd {w : World} {base : Nat} {v : Value} {l : List Wi} (h : OwnI w base v l) : RdI w w.heap.size v l := by
  rcases h.2 with ⟨rfl, h0⟩ | ⟨g, cap, cur, rfl, hb, hh, hnc, hm, hsz, ht⟩
  · exact ⟨none, 0, by rw [h0], by omega, by unfold maxLen; omega, by intro h; omega⟩
  · refine ⟨_, _, rfl, hnc, hm, fun _ => ⟨g, 0, rfl, (h.lt rfl).2, fun i hi => ?_⟩⟩
    have h2 := ics_len l
    have key : ∀ j, j < l.length * 4 → w.cell? ⟨g, 0 + j, none⟩ = (ics l)[j]? := by
      intro j hj
      rw [Nat.zero_add, cell_of_row w g j cur 33 (0, 0) hh]
      have h1 : (cur.toList.take (l.length * 4))[j]? = (ics l)[j]? := by rw [ht]
      rw [List.getElem?_take_of_lt (by omega)] at h1
      rw [← Array.getElem?_toList, h1]
    obtain ⟨a0, a1, a2, a3⟩ := ics_at l i hi
    exact ⟨(key _ (by omega)).trans a0, (key _ (by omega)).trans a1, (key _ (by omega)).trans a2, (key _ (by omega)).trans a3⟩
theorem RdI.below {w w' : World} {hi : Nat} {v : Value} {l : List Wi} (h : RdI w hi v l) {B : Nat} (hb : Below B w w') (hB : hi ≤ B) : RdI w' hi v l := by
  obtain ⟨A, c, e, h1, h2, h3⟩ := h
  refine ⟨A, c, e, h1, h2, fun h0 => ?_⟩
  obtain ⟨g, o, hA, hg, hc⟩ := h3 h0
  refine ⟨g, o, hA, hg, fun i hi' => ?_⟩
  have k : ∀ j, w'.cell? ⟨g, j, none⟩ = w.cell? ⟨g, j, none⟩ := fun j => World.cell?_of_block (a := ⟨g, j, none⟩) (hb.block g (by omega))
  obtain ⟨c0, c1, c2, c3⟩ := hc i hi'
  exact ⟨(k _).trans c0, (k _).trans c1, (k _).trans c2, (k _).trans c3⟩
theorem RdI.drewN {w : World} {hi : Nat} {v : Value} {l : List Wi} (h : RdI w hi v l) (m : Nat) : RdI (w.drewN m) hi v l := h
theorem RdI.mono {w : World} {hi hi' : Nat} {v : Value} {l : List Wi} (h : RdI w hi v l) (hh : hi ≤ hi') : RdI w hi' v l := by
  obtain ⟨A, c, e, h1, h2, h3⟩ := h
  refine ⟨A, c, e, h1, h2, fun h0 => ?_⟩
  obtain ⟨g, o, hA, hg, hc⟩ := h3 h0
  exact ⟨g, o, hA, by omega, hc⟩
/-- A part of a list that can be read. -/
theorem RdI.sub {w : World} {hi c g o : Nat} {l : List Wi} (h : RdI w hi (.slice (some ⟨g, o, none⟩) l.length c) l) (a b : Nat) (hab : a ≤ b) (hb : b ≤ l.length) (c' : Nat) (hc1 : b - a ≤ c') (hc2 : c' ≤ maxLen) :
    RdI w hi (.slice (some ⟨g, o + a * 4, none⟩) (b - a) c') ((l.take b).drop a) := by
  obtain ⟨A, c0, e, h1, h2, h3⟩ := h
  have hl : ((l.take b).drop a).length = b - a := by rw [List.length_drop, List.length_take, Nat.min_eq_left hb]
  refine ⟨some ⟨g, o + a * 4, none⟩, c', by rw [hl], by rw [hl]; exact hc1, hc2, fun h0 => ?_⟩
  rw [hl] at h0
  obtain ⟨g', o', hA, hg, hc⟩ := h3 (by omega)
  simp only [Value.slice.injEq, true_and] at e
  obtain ⟨e1, e2⟩ := e
  rw [← e1] at hA
  simp only [Option.some.injEq, Addr.mk.injEq, and_true] at hA
  obtain ⟨rfl, rfl⟩ := hA
  refine ⟨g, o + a * 4, rfl, hg, fun i hi' => ?_⟩
  rw [hl] at hi'
  have hx : ((l.take b).drop a)[i]'(by rw [hl]; exact hi') = l[a + i]'(by omega) := by simp
  obtain ⟨c0, c1, c2, c3⟩ := hc (a + i) (by omega)
  rw [hx]
  have e4 : o + (a + i) * 4 = o + a * 4 + i * 4 := by omega
  rw [e4] at c0 c1 c2 c3
  exact ⟨c0, c1, c2, c3⟩
theorem run_append_i {P : Program} {w : World} {base B : Nat} {v : Value} {xs : List Wi} (t ty : TypeId) (i : TypeInfo)
    (ht : P.underlying t = some (.slice 33)) (hi : P.info? 33 = some i) (hz : i.zero = some (.agg #[.int .i64 0, .int .i64 0, .string ⟨#[]⟩, .int .i64 0])) (hsize : i.size = 4) (hby : i.bytes = 40)
    (hown : OwnI w base v xs) (x : Wi) (hB : Blk w B 33 #[.int .i64 x.k, .int .i64 x.p, .string x.t, .int .i64 x.n]) (hlen : xs.length ≤ 1073741824) (hbase : base ≤ w.heap.size) :
    ∃ v' w', (Builtin.append_ #[t, t] ty #[v, .slice (some ⟨B, 0, none⟩) 1 1]).run P w = .ok v' w' ∧ OwnI w' base v' (xs ++ [x]) ∧ Grew w w' v v' := by
  obtain ⟨v', w', hrun, h2, h3, _, h5⟩ := run_append_own_at (P := P) w base t ty 33 i _ 4 40 ht hi hz hsize hby rfl (by omega) v xs.length (ics xs) hown ⟨B, 0, none⟩ 1 1 x.cs rfl (World.news_of_block hB) (by intro u hu; simp only [Wi.cs, List.mem_cons, List.mem_nil_iff, or_false] at hu; rcases hu with rfl | rfl | rfl | rfl <;> rfl) (by unfold maxLen; omega) (by omega) hbase
  refine ⟨v', w', hrun, ?_, ⟨h3, h5.imp id fun e => ⟨_, e, Nat.le_refl _⟩⟩⟩
  unfold OwnI
  rw [ics_snoc, List.length_append]
  exact h2
section
variable {P : Program} (w : World)
theorem wp_append_i {o : Oper} {a : Act} {K : Act → World → Prop} {Q : Exit → Act → World → Prop} (s x : Operand) (t : TypeId)
    (ho : o.op = .call { callee := .builtin .append, args := #[s, x], argTypes := #[t, t] }) (i : TypeInfo)
    (ht : P.underlying t = some (.slice 33)) (hi : P.info? 33 = some i) (hz : i.zero = some (.agg #[.int .i64 0, .int .i64 0, .string ⟨#[]⟩, .int .i64 0])) (hsize : i.size = 4) (hby : i.bytes = 40)
    (base : Nat) (v : Value) (xs : List Wi) (hs : a.eval s = v) (hown : OwnI w base v xs) (B : Nat) (y : Wi) (hx : a.eval x = .slice (some ⟨B, 0, none⟩) 1 1) (hB : Blk w B 33 #[.int .i64 y.k, .int .i64 y.p, .string y.t, .int .i64 y.n])
    (hlen : xs.length ≤ 1073741824) (hbase : base ≤ w.heap.size)
    (h : ∀ v' w', OwnI w' base v' (xs ++ [y]) → Grew w w' v v' → K (a.put o.dst v') w') : o.wp P a w K Q := by
  obtain ⟨v', w', hrun, h2, h3⟩ := run_append_i (P := P) t o.type i ht hi hz hsize hby hown y hB hlen hbase
  unfold Oper.wp execOp
  simp only [ho, resolve, invoke, builtin, Sem.run_bind, Sem.run_pure, Result.andThen_ok, List.map_toArray, List.map_cons, List.map_nil, hs, hx, hrun]
  exact h v' w' h2 h3
theorem wpList_append_i {ops : Array Oper} {rest : List Oper} {o : Oper} {a : Act} {Q : Exit → Act → World → Prop} (hgd : o.guard = none) (s x : Operand) (t : TypeId)
    (ho : o.op = .call { callee := .builtin .append, args := #[s, x], argTypes := #[t, t] }) (i : TypeInfo)
    (ht : P.underlying t = some (.slice 33)) (hi : P.info? 33 = some i) (hz : i.zero = some (.agg #[.int .i64 0, .int .i64 0, .string ⟨#[]⟩, .int .i64 0])) (hsize : i.size = 4) (hby : i.bytes = 40)
    (base : Nat) (v : Value) (xs : List Wi) (hs : a.eval s = v) (hown : OwnI w base v xs) (B : Nat) (y : Wi) (hx : a.eval x = .slice (some ⟨B, 0, none⟩) 1 1) (hB : Blk w B 33 #[.int .i64 y.k, .int .i64 y.p, .string y.t, .int .i64 y.n])
    (hlen : xs.length ≤ 1073741824) (hbase : base ≤ w.heap.size)
    (h : ∀ v' w', OwnI w' base v' (xs ++ [y]) → Grew w w' v v' → wpList P ops Q rest (a.put o.dst v') w') : wpList P ops Q (o :: rest) a w :=
  wpList_plain hgd fun _ hK => wp_append_i w s x t ho i ht hi hz hsize hby base v xs hs hown B y hx hB hlen hbase fun v' w' h2 h3 => hK _ _ (h v' w' h2 h3)
end
end Go.Proofs.YtoineheocipmaaaGreatDoor
