/-
  A row of old memory appended to an own row, among rows of other types.
-/
import Derived.Test.YthmdaejlopjjoaaGreatDoorSmB
import Derived.Test.YthmdaejlopjjoaaGreatDoorFlow
namespace Go.Proofs.YthmdaejlopjjoaaGreatDoor
open Go.RowKit
set_option linter.unusedVariables false
set_option linter.unusedSimpArgs false

/-- A row of its own, whose elements lie in the old memory. -/
def OwnQ (B : Nat) (w : World) (v : Value) (e : TypeId) (k n : Nat) (cs : List Dv) : Prop :=
  B ≤ w.heap.size ∧ ∃ xs F, w.ownsRow B e k v n xs ∧ MemL w 0 cs xs F ∧ ∀ q ∈ F, q < B
/-- What lies in the old memory. -/
def Mq (w : World) (B : Nat) (d : Dv) (v : Value) : Prop := ∃ G, Mem w 0 d v G ∧ ∀ q ∈ G, q < B
/-- What is old stays, and of the new all that isn't of this type. -/
structure Tf (B : Nat) (t : TypeId) (w w' : World) : Prop where
  kp : Kp (fun k => B ≤ k) w w'
  ty : ∀ (k : Nat) (cs : Array Value) (e : TypeId) (f : Nat × Nat), w.heap[k]? = some (Obj.cells cs e f) → e ≠ t → w'.heap[k]? = w.heap[k]?
theorem Tf.of_kn {B : Nat} {t : TypeId} {w w' : World} (h : Kn w w') : Tf B t w w' :=
  ⟨Kp.mono h fun _ f => f.elim, fun k cs e f hk _ => h.block k (Array.getElem?_eq_some_iff.mp hk).1 (fun f => f)⟩
theorem Tf.of_set {B r : Nat} {t : TypeId} {w w' : World} {cs : Array Value} (h : Kp (fun k => k = r) w w') (hb : Blk w r t cs) (hB : B ≤ r) : Tf B t w w' :=
  ⟨h.mono fun k e _ => by omega, fun k cs' e f hq hne => h.block k (Array.getElem?_eq_some_iff.mp hq).1 fun he => hne (by
    subst he
    have h1 : w.heap[k]? = _ := hb
    rw [hq] at h1
    injection h1 with h1
    injection h1)⟩
theorem OwnQ.tf {B : Nat} {w w' : World} {v : Value} {e t : TypeId} {k n : Nat} {cs : List Dv} (h : OwnQ B w v e k n cs) (hf : Tf B t w w') (ht : e ≠ t) : OwnQ B w' v e k n cs := by
  obtain ⟨hB, xs, F, h1, h2, h3⟩ := h
  refine ⟨Nat.le_trans hB hf.kp.size, xs, F, ⟨h1.1, ?_⟩, MemL.stays h2 fun g hg => hf.kp.block g (by have := h3 g hg; omega) (by have := h3 g hg; omega), h3⟩
  rcases h1.2 with h1 | ⟨g, cap, cur, hv, hb, hg, r⟩
  · exact .inl h1
  · exact .inr ⟨g, cap, cur, hv, hb, (hf.ty _ _ _ _ hg ht).trans hg, r⟩
theorem OwnQ.nil {B : Nat} (w : World) (t : TypeId) (k : Nat) (hB : B ≤ w.heap.size) : OwnQ B (w.alloc (.cells #[] t)) (.slice (some ⟨w.heap.size, 0, none⟩) 0 0) t k 0 [] :=
  ⟨by simp; omega, [], [], World.ownsRow_made w #[] 0 hB (Nat.zero_le _) (by simp), .nil, fun q hq => by cases hq⟩
theorem OwnQ.mem {B : Nat} {w : World} {v : Value} {e : TypeId} {k n : Nat} {cs : List Dv} (h : OwnQ B w v e k n cs) : ∃ F, Mem w 0 (.sl e k n cs) v F := by
  obtain ⟨hB, xs, F, h1, h2, h3⟩ := h
  exact ⟨_, .sl _ _ _ _ _ _ _ ⟨h1.1, h1.2.imp_right fun ⟨g, cap, cur, hv, _, r⟩ => ⟨g, cap, cur, hv, Nat.zero_le _, r⟩⟩ h2⟩
theorem OwnQ.val {B : Nat} {w : World} {v : Value} {e : TypeId} {k n : Nat} {cs : List Dv} (h : OwnQ B w v e k n cs) : ∃ A c, v = .slice A n c := by
  obtain ⟨hB, xs, F, h1, h2, h3⟩ := h
  rcases h1.2 with ⟨h1, h2⟩ | ⟨g, cap, cur, hv, r⟩
  · exact ⟨none, 0, by rw [h1, h2]⟩
  · exact ⟨_, _, hv⟩
theorem Mq.kp {w w' : World} {B : Nat} {d : Dv} {v : Value} (h : Mq w B d v) (hk : Kp (fun k => B ≤ k) w w') : Mq w' B d v := by
  obtain ⟨G, h1, h2⟩ := h
  exact ⟨G, Mem.stays h1 fun g hg => hk.block g (Mem.lt h1 g hg).2 (by have := h2 g hg; omega), h2⟩
theorem Tr.rows {w : World} {B : Nat} {x : Tr} {p v1 v2 v3 v4 : Value} {F : List Nat} (h : MemL w B (Tr.dv Ty0 x) [p, v1, v2, v3, v4] F) :
    Mq w w.heap.size (lsD 37 3 Im.dv x.imps) v1 ∧ Mq w w.heap.size (lsD 49 8 (Ms.dv Ty0) x.msgs) v2 ∧ Mq w w.heap.size (lsD 52 5 (En.dv Ty0) x.enums) v3 ∧ Mq w w.heap.size (lsD 86 3 (Sv.dv Ty0) x.svcs) v4 := by
  obtain ⟨A1, c1, F1, A2, c2, F2, A3, c3, F3, A4, c4, F4, e, x1, x2, x3, x4⟩ := Tr.q h
  injection e with e0 e
  injection e with e1 e
  injection e with e2 e
  injection e with e3 e
  injection e with e4 e
  rw [e1, e2, e3, e4]
  exact ⟨⟨_, Mem.base (Nat.zero_le _) x1, fun q hq => (Mem.lt x1 q hq).2⟩, ⟨_, Mem.base (Nat.zero_le _) x2, fun q hq => (Mem.lt x2 q hq).2⟩, ⟨_, Mem.base (Nat.zero_le _) x3, fun q hq => (Mem.lt x3 q hq).2⟩, ⟨_, Mem.base (Nat.zero_le _) x4, fun q hq => (Mem.lt x4 q hq).2⟩⟩
theorem run_append_row {P : Program} {w : World} {B : Nat} {v x : Value} {e : TypeId} {k n m : Nat} {cs ds : List Dv} (h : OwnQ B w v e k n cs) (hx : Mq w B (.sl e k m ds) x)
    (t ty : TypeId) (i : TypeInfo) (z : Value) (bytes : Nat) (ht : P.underlying t = some (.slice e)) (hi : P.info? e = some i) (hz : i.zero = some z) (hsize : i.size = k) (hby : i.bytes = bytes) (hzs : z.cells.size = k) (hk : 0 < k)
    (hn : n ≤ 1000000) (hm : m ≤ 1000000) (hbytes : bytes ≤ 1000000) :
    ∃ v' w', (Builtin.append_ #[t, t] ty #[v, x]).run P w = .ok v' w' ∧ OwnQ B w' v' e k (n + m) (cs ++ ds) ∧ Tf B e w w' := by
  obtain ⟨hB, xs, F, h1, h2, h3⟩ := h
  obtain ⟨F', hx, hF⟩ := hx
  cases hx with
  | sl _ _ _ _ _ ys G hy hc =>
  have hG : ∀ q ∈ G, q < B := fun q hq => hF q (List.mem_append_right _ hq)
  have hby2 : (n + m) * bytes ≤ 140737488355328 := Nat.le_trans (Nat.mul_le_mul (show n + m ≤ 2000000 by omega) hbytes) (by omega)
  rcases hy.2 with ⟨rfl, rfl⟩ | ⟨g, cap, cur, rfl, -, hg, hr⟩
  · have hys : ys = [] := List.eq_nil_of_length_eq_zero (by simpa using hy.1)
    subst hys
    have hds : ds = [] := List.eq_nil_of_length_eq_zero (by simpa using (MemL.len hc).symm)
    subst hds
    refine ⟨v, w, ?_, ⟨hB, xs, F, by simpa using h1, by simpa using h2, h3⟩, Tf.of_kn (Kp.refl _ _)⟩
    rcases h1.2 with ⟨rfl, rfl⟩ | ⟨g, cap, cur, rfl, hbg, hg, hnc, hcm, hcs, htake⟩
    · simp [Builtin.append_, run_underlying ht, sizeOf, typeInfo, hi, Builtin.lenOf, Builtin.firstCells, loadCells, loadCellsFrom]
    · simp [Builtin.append_, run_underlying ht, sizeOf, typeInfo, hi, Builtin.lenOf, Builtin.firstCells, loadCells, loadCellsFrom, hnc, storeCells]
  · obtain ⟨v', w', hrun, h4, h5, h6, h7⟩ := run_append_own_at (P := P) w B t ty e i z k bytes ht hi hz hsize hby hzs hk v n xs h1 ⟨g, 0, none⟩ m cap ys hy.1 (hy.cells rfl) (MemL.one hc) (by unfold maxLen; omega) hby2 hB
    have hrow : ∀ q, v.ownBlock = some q → B ≤ q := fun q hq => (h1.lt q hq).1
    refine ⟨v', w', hrun, ⟨Nat.le_trans hB h5.size, xs ++ ys, F ++ G, h4, MemL.app (MemL.stays hc fun q hq => ?_) (MemL.stays h2 fun q hq => ?_), fun q hq => (List.mem_append.1 hq).elim (h3 q) (hG q)⟩, ⟨(Kp.of_grown h5).mono fun q hq _ => hrow q hq.symm, fun q cs' e' f hq hne => h5.block q (Array.getElem?_eq_some_iff.mp hq).1 fun hh => ?_⟩⟩
    · exact h5.block q (by have := hG q hq; omega) fun hh => by have := hrow q hh.symm; have := hG q hq; omega
    · exact h5.block q (by have := h3 q hq; omega) fun hh => by have := hrow q hh.symm; have := h3 q hq; omega
    · rcases h1.2 with ⟨rfl, -⟩ | ⟨g', cap', cur', rfl, -, hg', -⟩
      · cases hh
      · injection hh with hh
        subst hh
        have hg'' : w.heap[q]? = some (.cells cur' e (0, 0)) := hg'
        rw [hq] at hg''
        injection hg'' with hg''
        injection hg'' with _ he _
        exact hne he
theorem wp_append_row {P : Program} {w : World} {o : Oper} {a : Act} {K : Act → World → Prop} {Q : Exit → Act → World → Prop} (s y : Operand) (t : TypeId)
    (ho : o.op = .call { callee := .builtin .append, args := #[s, y], argTypes := #[t, t] }) {B : Nat} {v x : Value} {e : TypeId} {k n m : Nat} {cs ds : List Dv} (hs : a.eval s = v) (hy : a.eval y = x)
    (h : OwnQ B w v e k n cs) (hx : Mq w B (.sl e k m ds) x)
    (i : TypeInfo) (z : Value) (bytes : Nat) (ht : P.underlying t = some (.slice e)) (hi : P.info? e = some i) (hz : i.zero = some z) (hsize : i.size = k) (hby : i.bytes = bytes) (hzs : z.cells.size = k) (hk : 0 < k)
    (hn : n ≤ 1000000) (hm : m ≤ 1000000) (hbytes : bytes ≤ 1000000)
    (hq : ∀ v' w', OwnQ B w' v' e k (n + m) (cs ++ ds) → Tf B e w w' → K (a.put o.dst v') w') : o.wp P a w K Q := by
  obtain ⟨v', w', hrun, h2, h3⟩ := run_append_row (P := P) h hx t o.type i z bytes ht hi hz hsize hby hzs hk hn hm hbytes
  unfold Oper.wp execOp
  simp only [ho, resolve, invoke, builtin, Sem.run_bind, Sem.run_pure, Result.andThen_ok, List.map_toArray, List.map_cons, List.map_nil, hs, hy, hrun]
  exact hq v' w' h2 h3
end Go.Proofs.YthmdaejlopjjoaaGreatDoor
