/-
  Words for memory: bytes that lie in a slice, blocks that are kept. No program.
-/
import Derived.WalkKit
import Derived.WalkSpells
import Derived.WalkLawsBesides
import Derived.Lib.UnsafeStr
import Derived.Lib.BufferWrite
import Derived.Lib.Hide
import Derived.Laws.OwnMore
import Derived.Maps.AppendAt
import Derived.Deep.AppendLies
import Derived.Deep.Draws
import Derived.Laws.Rows
import Derived.Laws.BytesArg
import Derived.OwnWalk
import Derived.RegionTactic
namespace Go.Proofs.YthmdaejlopjjoaaGreatDoor
open Go.RowKit
open Go.Lib (byteCells byteCells_length byteCells_append)
set_option linter.unusedVariables false

/-- Blocks lo .. hi-1 are as they were. -/
def Kept (lo hi : Nat) (w w' : World) : Prop := ∀ k, lo ≤ k → k < hi → w'.heap[k]? = w.heap[k]?

theorem Kept.refl (lo hi : Nat) (w : World) : Kept lo hi w w := fun _ _ _ => rfl
theorem Kept.trans {lo hi : Nat} {a b c : World} (h : Kept lo hi a b) (k : Kept lo hi b c) : Kept lo hi a c := fun i h1 h2 => (k i h1 h2).trans (h i h1 h2)
theorem Kept.mono {lo hi lo' hi' : Nat} {a b : World} (h : Kept lo hi a b) (h1 : lo ≤ lo') (h2 : hi' ≤ hi) : Kept lo' hi' a b := fun i p q => h i (by omega) (by omega)
theorem Kept.of_below {lo hi B : Nat} {a b : World} (h : Below B a b) (hB : hi ≤ B) : Kept lo hi a b := fun i _ q => h.block i (by omega)
theorem Kept.of_grown {lo hi : Nat} {a b : World} {row : Option Nat} (h : a.grownBy b row) (hB : hi ≤ a.heap.size) (hr : ∀ g, row = some g → g < lo ∨ hi ≤ g) : Kept lo hi a b :=
  fun i p q => h.block i (by omega) (fun e => by have := hr i e.symm; omega)
theorem Kept.drewN {lo hi : Nat} {a b : World} (h : Kept lo hi a b) (n : Nat) : Kept lo hi a (b.drewN n) := h
theorem Kept.drew {lo hi : Nat} {a b : World} (h : Kept lo hi a b) : Kept lo hi a b.drew := h
theorem Kept.alloc {lo hi : Nat} {a b : World} (h : Kept lo hi a b) (hB : hi ≤ b.heap.size) (o : Obj) : Kept lo hi a (b.alloc o) := fun i p q => (Below.heap_alloc b o i (by omega)).trans (h i p q)
theorem Kept.setCell {lo hi : Nat} {a b : World} (h : Kept lo hi a b) {p : Addr} (hp : p.block < lo ∨ hi ≤ p.block) (u : Value) : Kept lo hi a (b.setCell p u) :=
  fun i h1 h2 => (Below.heap_setCell b p u i (by omega)).trans (h i h1 h2)

/-- The slice A n c holds the bytes l, in blocks lo .. hi-1. -/
def Bs (w : World) (lo hi : Nat) (A : Option Addr) (n c : Nat) (l : List UInt8) : Prop :=
  l.length = n ∧ n ≤ c ∧ c ≤ maxLen ∧ (0 < n → ∃ b o, A = some ⟨b, o, none⟩ ∧ lo ≤ b ∧ b < hi ∧ ∀ j (h : j < l.length), w.cell? ⟨b, o + j, none⟩ = some (.int .u8 (l[j].toNat : Int)))

section
variable {w w' : World} {lo hi lo' hi' n c : Nat} {A : Option Addr} {l : List UInt8}
theorem Bs.none_ (w : World) (lo hi : Nat) (A : Option Addr) {c : Nat} (hc : c ≤ maxLen) : Bs w lo hi A 0 c [] := ⟨rfl, by omega, hc, fun h => absurd h (by omega)⟩
theorem Bs.kept (h : Bs w lo hi A n c l) (k : Kept lo hi w w') : Bs w' lo hi A n c l :=
  ⟨h.1, h.2.1, h.2.2.1, fun hn => by
    obtain ⟨b, o, e, h1, h2, hc⟩ := h.2.2.2 hn
    exact ⟨b, o, e, h1, h2, fun j hj => (World.cell?_of_block (a := ⟨b, o + j, none⟩) (k b h1 h2)).trans (hc j hj)⟩⟩
theorem Bs.mono (h : Bs w lo hi A n c l) (h1 : lo' ≤ lo) (h2 : hi ≤ hi') : Bs w lo' hi' A n c l :=
  ⟨h.1, h.2.1, h.2.2.1, fun hn => by
    obtain ⟨b, o, e, p, q, hc⟩ := h.2.2.2 hn
    exact ⟨b, o, e, by omega, by omega, hc⟩⟩
theorem Bs.below {B : Nat} (h : Bs w lo hi A n c l) (hb : Below B w w') (hB : hi ≤ B) : Bs w' lo hi A n c l := h.kept (.of_below hb hB)
theorem Bs.drewN (h : Bs w lo hi A n c l) (k : Nat) : Bs (w.drewN k) lo hi A n c l := h
theorem Bs.drew (h : Bs w lo hi A n c l) : Bs w.drew lo hi A n c l := h
theorem Bs.alloc (h : Bs w lo hi A n c l) (hB : hi ≤ w.heap.size) (o : Obj) : Bs (w.alloc o) lo hi A n c l := h.kept ((Kept.refl _ _ _).alloc hB o)
theorem Bs.setCell (h : Bs w lo hi A n c l) {p : Addr} (hp : p.block < lo ∨ hi ≤ p.block) (u : Value) : Bs (w.setCell p u) lo hi A n c l := h.kept ((Kept.refl _ _ _).setCell hp u)
/-- Without any bytes read: only the value's shape counts. -/
theorem Bs.len (h : Bs w lo hi A n c l) : l.length = n := h.1
theorem Bs.le (h : Bs w lo hi A n c l) : n ≤ c := h.2.1
theorem Bs.cap (h : Bs w lo hi A n c l) : c ≤ maxLen := h.2.2.1
theorem Bs.at_ (h : Bs w lo hi A n c l) (hn : 0 < n) : ∃ b o, A = some ⟨b, o, none⟩ ∧ lo ≤ b ∧ b < hi ∧ ∀ j (h : j < l.length), w.cell? ⟨b, o + j, none⟩ = some (.int .u8 (l[j].toNat : Int)) := h.2.2.2 hn
/-- The numbers, as the conversion to a string has them. -/
theorem Bs.nums (h : Bs w lo hi A n c l) (hn : 0 < n) : ∃ b o, A = some ⟨b, o, none⟩ ∧ ∀ i, i < n → w.cell? ⟨b, o + i, none⟩ = some (.int .u8 ((l.map fun x => (x.toNat : Int)).getD i 0)) := by
  obtain ⟨b, o, e, _, _, hc⟩ := h.at_ hn
  refine ⟨b, o, e, fun i hi => ?_⟩
  have hl := h.1
  rw [hc i (by omega)]
  simp [List.getD, List.getElem?_map, List.getElem?_eq_getElem (show i < l.length by omega)]

theorem bytes_back (l : List UInt8) : (l.map fun x => (x.toNat : Int)).map (fun n => UInt8.ofNat n.toNat) = l := by
  rw [List.map_map]
  conv => rhs; rw [← List.map_id l]
  apply List.map_congr_left
  intro x _
  simp

/-- string(b). -/
theorem Bs.convert {P : Program} (h : Bs w lo hi A n c l) (src e dst : TypeId) (hs : P.underlying src = some (.slice e)) (he : P.underlying e = some (.int .u8)) (hd : P.underlying dst = some .string) :
    (convert src dst (.slice A n c)).run P w = .ok (.string ⟨l.toArray⟩) w := by
  rcases Nat.eq_zero_or_pos n with h0 | h0
  · have hl : l = [] := List.eq_nil_of_length_eq_zero (by have := h.1; omega)
    subst h0; subst hl
    rcases A with _ | a
    · rw [run_convert_bytes_nil w src e hs he 0 c dst hd]; rfl
    · rw [run_convert_bytes_string w src dst e _ 0 c hs he hd]
      have hl : (loadCells a 0).run P w = .ok #[] w := by simpa using run_loadCells_list (P := P) w a [] (fun j v hj => by simp at hj)
      rw [run_bytesToString w a 0 c [] (by simpa using hl)]
      rfl
  · obtain ⟨b, o, rfl, hc⟩ := h.nums h0
    rw [run_convert_bytes_arg w src e hs he b o n c (l.map fun x => (x.toNat : Int)) (by simp [h.1]) hc dst hd]
    congr 2
    unfold strOfNums
    rw [bytes_back]
end

/-- v is a slice of the call's own (from block base on) that holds the bytes l. -/
def Own (w : World) (base : Nat) (v : Value) (l : List UInt8) : Prop := w.ownsRow base 5 1 v l.length (byteCells l)

theorem Own.nil (w : World) (base : Nat) : Own w base (.slice none 0 0) [] := ⟨rfl, .inl ⟨rfl, rfl⟩⟩
theorem Own.bs {w : World} {base : Nat} {v : Value} {l : List UInt8} (h : Own w base v l) : ∃ A c, v = .slice A l.length c ∧ Bs w base w.heap.size A l.length c l := by
  rcases h.2 with ⟨rfl, h0⟩ | ⟨g, cap, cur, rfl, hb, hh, hnc, hm, hsz, ht⟩
  · have hl : l = [] := List.eq_nil_of_length_eq_zero h0
    subst hl
    exact ⟨none, 0, rfl, Bs.none_ _ _ _ _ (by unfold maxLen; omega)⟩
  · refine ⟨_, _, rfl, rfl, hnc, hm, fun _ => ⟨g, 0, rfl, hb, ?_, fun j hj => ?_⟩⟩
    · rcases Nat.lt_or_ge g w.heap.size with hlt | hge
      · exact hlt
      · rw [Array.getElem?_eq_none hge] at hh; cases hh
    · rw [cell_of_row w g (0 + j) cur 5 (0, 0) hh]
      have h1 : (cur.toList.take (l.length * 1))[j]? = (byteCells l)[j]? := by rw [ht]
      rw [List.getElem?_take_of_lt (by omega)] at h1
      rw [Nat.zero_add, ← Array.getElem?_toList, h1]
      simp [byteCells, List.getElem?_eq_getElem hj]
theorem Own.kept {w w' : World} {base : Nat} {v : Value} {l : List UInt8} (h : Own w base v l) (k : ∀ g, v.ownBlock = some g → w'.heap[g]? = w.heap[g]?) : Own w' base v l := by
  refine ⟨h.1, ?_⟩
  rcases h.2 with h | ⟨g, cap, cur, rfl, hb, hh, r⟩
  · exact .inl h
  · exact .inr ⟨g, cap, cur, rfl, hb, by rw [k g rfl]; exact hh, r⟩
theorem Own.lt {w : World} {base : Nat} {v : Value} {l : List UInt8} (h : Own w base v l) {g : Nat} (hg : v.ownBlock = some g) : base ≤ g ∧ g < w.heap.size := by
  rcases h.2 with ⟨rfl, _⟩ | ⟨g', cap, cur, rfl, hb, hh, r⟩
  · cases hg
  · have : g' = g := by simpa [Value.ownBlock] using hg
    subst this
    refine ⟨hb, ?_⟩
    rcases Nat.lt_or_ge g' w.heap.size with hlt | hge
    · exact hlt
    · rw [Array.getElem?_eq_none hge] at hh; cases hh
theorem Own.base_ {w : World} {base base' : Nat} {v : Value} {l : List UInt8} (h : Own w base v l) (hb : base' ≤ base) : Own w base' v l := by
  refine ⟨h.1, ?_⟩
  rcases h.2 with h | ⟨g, cap, cur, rfl, hg, r⟩
  · exact .inl h
  · exact .inr ⟨g, cap, cur, rfl, by omega, r⟩
theorem Own.drewN {w : World} {base : Nat} {v : Value} {l : List UInt8} (h : Own w base v l) (k : Nat) : Own (w.drewN k) base v l := h
theorem Own.drew {w : World} {base : Nat} {v : Value} {l : List UInt8} (h : Own w base v l) : Own w.drew base v l := h
theorem Own.alloc {w : World} {base : Nat} {v : Value} {l : List UInt8} (h : Own w base v l) (o : Obj) : Own (w.alloc o) base v l := h.kept fun g hg => Below.heap_alloc w o g (h.lt hg).2
theorem Own.setCell {w : World} {base : Nat} {v : Value} {l : List UInt8} (h : Own w base v l) {p : Addr} (hp : v.ownBlock ≠ some p.block) (u : Value) : Own (w.setCell p u) base v l :=
  h.kept fun g hg => Below.heap_setCell w p u g (fun e => hp (by rw [hg, e]))
theorem Own.grown {w w' : World} {base : Nat} {v : Value} {l : List UInt8} (h : Own w base v l) {row : Option Nat} (hg : w.grownBy w' row) (hr : ∀ g, row = some g → v.ownBlock ≠ some g) : Own w' base v l :=
  h.kept fun g e => hg.block g (h.lt e).2 (fun r => hr g r.symm e)

/-- append's bytes: from a slice that came from anywhere. -/
theorem Bs.news {w : World} {lo hi n c : Nat} {b o : Nat} {l : List UInt8} (h : Bs w lo hi (some ⟨b, o, none⟩) n c l) : ∀ j u, (byteCells l)[j]? = some u → w.cell? ((⟨b, o, none⟩ : Addr).add j) = some u := by
  intro j u hu
  have hj : j < l.length := by
    rcases Nat.lt_or_ge j l.length with hlt | hge
    · exact hlt
    · rw [List.getElem?_eq_none (by simpa [byteCells] using hge)] at hu; cases hu
  have hn : 0 < n := by have := h.1; omega
  obtain ⟨b', o', e, _, _, hc⟩ := h.at_ hn
  injection e with e; injection e with e1 e2 _; subst e1; subst e2
  have hadd : (⟨b, o, none⟩ : Addr).add j = ⟨b, o + j, none⟩ := by unfold Addr.add; split <;> simp_all
  rw [hadd, hc j hj, ← hu]
  simp [byteCells, List.getElem?_eq_getElem hj]

/-- append(v, src...) where v is nil or the call's own and src is any slice of bytes. -/
theorem run_append_bs {P : Program} {w : World} {base lo hi n c : Nat} {A : Option Addr} {v : Value} {xs l : List UInt8} (t ty : TypeId) (i : TypeInfo)
    (ht : P.underlying t = some (.slice 5)) (hi5 : P.info? 5 = some i) (hz : i.zero = some (.int .u8 0)) (hsize : i.size = 1) (hby : i.bytes = 1)
    (hown : Own w base v xs) (hs : Bs w lo hi A n c l) (hlen : xs.length + n ≤ 140737488355328) (hbase : base ≤ w.heap.size) :
    ∃ v' w', (Builtin.append_ #[t, t] ty #[v, .slice A n c]).run P w = .ok v' w' ∧ Own w' base v' (xs ++ l) ∧ w.grownBy w' v.ownBlock ∧ (v'.ownBlock = v.ownBlock ∨ v'.ownBlock = some w.heap.size) := by
  have nilcase : n = 0 → ∃ v' w', (Builtin.append_ #[t, t] ty #[v, .slice A n c]).run P w = .ok v' w' ∧ Own w' base v' (xs ++ l) ∧ w.grownBy w' v.ownBlock ∧ (v'.ownBlock = v.ownBlock ∨ v'.ownBlock = some w.heap.size) := by
    intro h0
    have hl : l = [] := List.eq_nil_of_length_eq_zero (by have := hs.1; omega)
    subst h0; subst hl
    refine ⟨v, w, ?_, by simpa using hown, World.grownBy.refl w _, .inl rfl⟩
    rcases A with _ | a
    · rcases hown.2 with ⟨rfl, hx⟩ | ⟨g, cap, cur, rfl, _, _, hnc, _⟩
      · simp [Builtin.append_, run_underlying ht, sizeOf, typeInfo, hi5, Builtin.lenOf, Builtin.firstCells]
      · simp [Builtin.append_, run_underlying ht, sizeOf, typeInfo, hi5, Builtin.lenOf, Builtin.firstCells, hnc, storeCells]
    · have hl : (loadCells a 0).run P w = .ok #[] w := by simpa using run_loadCells_list (P := P) w a [] (fun j v hj => by simp at hj)
      rcases hown.2 with ⟨rfl, hx⟩ | ⟨g, cap, cur, rfl, _, _, hnc, _⟩
      · simp [Builtin.append_, run_underlying ht, sizeOf, typeInfo, hi5, Builtin.lenOf, Builtin.firstCells, hl]
      · simp [Builtin.append_, run_underlying ht, sizeOf, typeInfo, hi5, Builtin.lenOf, Builtin.firstCells, hnc, storeCells, hl]
  rcases Nat.eq_zero_or_pos n with h0 | h0
  · exact nilcase h0
  · obtain ⟨b, o, rfl, _⟩ := hs.at_ h0
    have hln := hs.1
    obtain ⟨v', w', hrun, h2, h3, _, h5⟩ := run_append_own_at (P := P) w base t ty 5 i (.int .u8 0) 1 1 ht hi5 hz hsize hby rfl (by omega) v xs.length (byteCells xs) hown ⟨b, o, none⟩ n c (byteCells l) (by rw [byteCells_length]; omega) hs.news (Go.Lib.byteCells_one l) (by unfold maxLen; omega) (by omega) hbase
    refine ⟨v', w', hrun, ?_, h3, h5⟩
    unfold Own
    rw [byteCells_append, List.length_append, hln]
    exact h2

/-- The new slice is the old one's row, or lies in new memory; nothing else that was there has turned. -/
def Grew (w w' : World) (v v' : Value) : Prop := w.grownBy w' v.ownBlock ∧ (v'.ownBlock = v.ownBlock ∨ ∃ g, v'.ownBlock = some g ∧ w.heap.size ≤ g)

theorem Grew.refl (w : World) (v : Value) : Grew w w v v := ⟨World.grownBy.refl w _, .inl rfl⟩
theorem Grew.trans {a b c : World} {u v x : Value} (h : Grew a b u v) (k : Grew b c v x) : Grew a c u x := by
  have hs : a.heap.size ≤ b.heap.size := h.1.size
  refine ⟨⟨k.1.os.trans h.1.os, k.1.tape.trans h.1.tape, k.1.output.trans h.1.output, Nat.le_trans hs k.1.size, fun i hi hne => (k.1.block i (by omega) ?_).trans (h.1.block i hi hne)⟩, ?_⟩
  · rcases h.2 with e | ⟨g, e, hg⟩
    · rw [e]; exact hne
    · rw [e]; intro h'; injection h' with h'; omega
  · rcases k.2 with e | ⟨g, e, hg⟩
    · rw [e]; exact h.2
    · exact .inr ⟨g, e, by omega⟩
theorem Grew.drewN {a b : World} {u v : Value} (h : Grew a b u v) (n : Nat) : Grew a (b.drewN n) u v := ⟨⟨h.1.os, h.1.tape, h.1.output, h.1.size, h.1.block⟩, h.2⟩
theorem Grew.alloc {a b : World} {u v : Value} (h : Grew a b u v) (o : Obj) : Grew a (b.alloc o) u v :=
  ⟨⟨h.1.os, h.1.tape, h.1.output, Nat.le_trans h.1.size (by simp), fun i hi hne => (Below.heap_alloc b o i (Nat.lt_of_lt_of_le hi h.1.size)).trans (h.1.block i hi hne)⟩, h.2⟩
theorem Grew.size {a b : World} {u v : Value} (h : Grew a b u v) : a.heap.size ≤ b.heap.size := h.1.size
/-- Out of nil, or out of memory from B on: below B nothing has turned. -/
theorem Grew.below {a b : World} {u v : Value} {B : Nat} (h : Grew a b u v) (hB : B ≤ a.heap.size) (hu : ∀ g, u.ownBlock = some g → B ≤ g) : Below B a b :=
  ⟨h.1.os, h.1.tape, h.1.output, h.1.size, fun k hk => h.1.block k (by omega) (fun e => by have := hu k e.symm; omega)⟩

theorem ofNat_toNat8 {a : Int} (h0 : 0 ≤ a) (h1 : a < 256) : ((UInt8.ofNat a.toNat).toNat : Int) = a := by
  rw [UInt8.toNat_ofNat']
  omega

/-- One byte, laid for an append. -/
theorem Bs.single (w : World) (a : Int) (h0 : 0 ≤ a) (h1 : a < 256) : Bs (w.alloc (.cells #[.int .u8 a] 5)) w.heap.size (w.heap.size + 1) (some ⟨w.heap.size, 0, none⟩) 1 1 [UInt8.ofNat a.toNat] := by
  refine ⟨rfl, by omega, by unfold maxLen; omega, fun _ => ⟨_, _, rfl, by omega, by omega, fun j hj => ?_⟩⟩
  have : j = 0 := by simpa using hj
  subst this
  rw [cell_of_row _ w.heap.size (0 + 0) #[.int .u8 a] 5 (0, 0) (heap_alloc_new w _)]
  simp only [List.getElem_cons_zero]
  rw [ofNat_toNat8 h0 h1]
  rfl

section
variable {P : Program} (w : World)
theorem wp_append_bs {o : Oper} {a : Act} {K : Act → World → Prop} {Q : Exit → Act → World → Prop} (s x : Operand) (t : TypeId)
    (ho : o.op = .call { callee := .builtin .append, args := #[s, x], argTypes := #[t, t] }) (i : TypeInfo)
    (ht : P.underlying t = some (.slice 5)) (hi5 : P.info? 5 = some i) (hz : i.zero = some (.int .u8 0)) (hsize : i.size = 1) (hby : i.bytes = 1)
    (base : Nat) (v : Value) (xs : List UInt8) (hs : a.eval s = v) (hown : Own w base v xs) (lo hi n c : Nat) (A : Option Addr) (l : List UInt8) (hx : a.eval x = .slice A n c) (hr : Bs w lo hi A n c l)
    (hlen : xs.length + n ≤ 140737488355328) (hbase : base ≤ w.heap.size)
    (h : ∀ v' w', Own w' base v' (xs ++ l) → Grew w w' v v' → K (a.put o.dst v') w') : o.wp P a w K Q := by
  obtain ⟨v', w', hrun, h2, h3, h4⟩ := run_append_bs (P := P) t o.type i ht hi5 hz hsize hby hown hr hlen hbase
  unfold Oper.wp execOp
  simp only [ho, resolve, invoke, builtin, Sem.run_bind, Sem.run_pure, Result.andThen_ok, List.map_toArray, List.map_cons, List.map_nil, hs, hx, hrun]
  exact h v' w' h2 ⟨h3, h4.imp id fun e => ⟨_, e, Nat.le_refl _⟩⟩

theorem wpList_append_bs {ops : Array Oper} {rest : List Oper} {o : Oper} {a : Act} {Q : Exit → Act → World → Prop} (hgd : o.guard = none) (s x : Operand) (t : TypeId)
    (ho : o.op = .call { callee := .builtin .append, args := #[s, x], argTypes := #[t, t] }) (i : TypeInfo)
    (ht : P.underlying t = some (.slice 5)) (hi5 : P.info? 5 = some i) (hz : i.zero = some (.int .u8 0)) (hsize : i.size = 1) (hby : i.bytes = 1)
    (base : Nat) (v : Value) (xs : List UInt8) (hs : a.eval s = v) (hown : Own w base v xs) (lo hi n c : Nat) (A : Option Addr) (l : List UInt8) (hx : a.eval x = .slice A n c) (hr : Bs w lo hi A n c l)
    (hlen : xs.length + n ≤ 140737488355328) (hbase : base ≤ w.heap.size)
    (h : ∀ v' w', Own w' base v' (xs ++ l) → Grew w w' v v' → wpList P ops Q rest (a.put o.dst v') w') : wpList P ops Q (o :: rest) a w :=
  wpList_plain hgd fun _ hK => wp_append_bs w s x t ho i ht hi5 hz hsize hby base v xs hs hown lo hi n c A l hx hr hlen hbase fun v' w' h2 h3 => hK _ _ (h v' w' h2 h3)
end
/-- Block g of the world is a row of cells cs of type t that may be written. -/
def Blk (w : World) (g : Nat) (t : TypeId) (cs : Array Value) : Prop := w.heap[g]? = some (.cells cs t (0, 0))
section
variable {w w' : World} {g : Nat} {t : TypeId} {cs : Array Value}
/-- A block that reads as before is the same row. -/
theorem Blk.stays (h : Blk w g t cs) (e : w'.heap[g]? = w.heap[g]?) : Blk w' g t cs := Eq.trans e h
theorem Blk.lt (h : Blk w g t cs) : g < w.heap.size :=
  Nat.lt_of_not_le fun hn => by have := Array.getElem?_eq_none hn; rw [show w.heap[g]? = _ from h] at this; cases this
theorem Blk.cell (h : Blk w g t cs) (i : Nat) : w.cell? ⟨g, i, none⟩ = cs[i]? := cell_of_row w g i cs t (0, 0) h
theorem Blk.frozen (h : Blk w g t cs) (i : Nat) : w.frozen? ⟨g, i, none⟩ = false := by simp [World.frozen?, show w.heap[g]? = _ from h]
theorem Blk.new (w : World) (t : TypeId) (cs : Array Value) : Blk (w.alloc (.cells cs t)) w.heap.size t cs := heap_alloc_new w _
theorem Blk.drew (h : Blk w g t cs) : Blk w.drew g t cs := h.stays rfl
theorem Blk.drewN (h : Blk w g t cs) (n : Nat) : Blk (w.drewN n) g t cs := h.stays rfl
theorem Blk.alloc (h : Blk w g t cs) (o : Obj) : Blk (w.alloc o) g t cs := h.stays (Below.heap_alloc w o g h.lt)
theorem Blk.set_ (h : Blk w g t cs) (i : Nat) (u : Value) : Blk (w.setCell ⟨g, i, none⟩ u) g t (cs.setIfInBounds i u) := by
  show (w.setCell ⟨g, i, none⟩ u).heap[g]? = _
  simp [World.setCell, Array.getElem?_modify, show w.heap[g]? = _ from h]
theorem Blk.far (h : Blk w g t cs) {p : Addr} (hp : g ≠ p.block) (u : Value) : Blk (w.setCell p u) g t cs := h.stays (Below.heap_setCell w p u g hp)
theorem Blk.below {B : Nat} (h : Blk w g t cs) (hb : Below B w w') (hg : g < B) : Blk w' g t cs := h.stays (hb.block g hg)
theorem Blk.grown {row : Option Nat} (h : Blk w g t cs) (hb : w.grownBy w' row) (hg : some g ≠ row) : Blk w' g t cs := h.stays (hb.block g h.lt hg)
end

/-- The first bytes of a slice. -/
theorem Bs.pre {w : World} {lo hi n c k : Nat} {A : Option Addr} {l : List UInt8} (h : Bs w lo hi A n c l) (hk : k ≤ n) : Bs w lo hi A k c (l.take k) := by
  have hl := h.len
  have hle := h.le
  refine ⟨by simp; omega, by omega, h.cap, fun hn => ?_⟩
  obtain ⟨b, o, e, h1, h2, hc⟩ := h.at_ (by omega)
  refine ⟨b, o, e, h1, h2, fun j hj => ?_⟩
  have hj' : j < k := by simp at hj; omega
  rw [hc j (by omega)]
  simp
theorem Own.toBs {w : World} {base : Nat} {A : Option Addr} {k c : Nat} {l : List UInt8} (h : Own w base (.slice A k c) l) : Bs w base w.heap.size A k c l := by
  obtain ⟨B, d, e, hb⟩ := h.bs
  injection e with e1 e2 e3
  subst e1; subst e2; subst e3
  exact hb
theorem Own.val {w : World} {base : Nat} {v : Value} {l : List UInt8} (h : Own w base v l) : ∃ A k c, v = .slice A k c := by
  obtain ⟨A, c, e, _⟩ := h.bs
  exact ⟨A, _, c, e⟩
/-- Bytes that are written out. -/
theorem Bs.lit (w : World) (l : List UInt8) (hl : l.length ≤ 1000) : Bs (w.alloc (.cells (Lib.byteCells l).toArray 5)) w.heap.size (w.heap.size + 1) (some ⟨w.heap.size, 0, none⟩) l.length l.length l := by
  refine ⟨rfl, Nat.le_refl _, by unfold maxLen; omega, fun _ => ⟨_, _, rfl, Nat.le_refl _, by omega, fun j hj => ?_⟩⟩
  rw [cell_of_row _ w.heap.size (0 + j) (Lib.byteCells l).toArray 5 (0, 0) (heap_alloc_new w _), Nat.zero_add]
  simp [Lib.byteCells, hj]
theorem Bs.mid {w : World} {lo hi n c K m b o : Nat} {l : List UInt8} (h : Bs w lo hi (some ⟨b, o, none⟩) n c l) (hp : K + m ≤ n) : Bs w lo hi (some ⟨b, o + K, none⟩) m (c - K) ((l.drop K).take m) := by
  have hl := h.len
  have h1 := h.le
  have h2 := h.cap
  refine ⟨by simp; omega, by omega, by omega, fun hm => ?_⟩
  obtain ⟨b', o', e, h1, h2, h3⟩ := h.at_ (by omega)
  injection e with e
  injection e with e1 e2
  subst e1 e2
  refine ⟨_, _, rfl, h1, h2, fun j hj => ?_⟩
  have hj' : j < m := by simp at hj; omega
  have := h3 (K + j) (by omega)
  rw [show o + K + j = o + (K + j) by omega, this]; simp
theorem ret_int {k : IntKind} {a b : Int} (h : a = b) : Ending.returned (.int k a) = .returned (.int k b) := by rw [h]
theorem ret_bool {a b : Bool} (h : a = b) : Ending.returned (.bool a) = .returned (.bool b) := by rw [h]
/-- New bytes, and nothing that was there has turned. -/
def Fresh (w : World) (l : List UInt8) (e : Ending) (w' : World) : Prop := ∃ v', e = .returned v' ∧ Own w' w.heap.size v' l ∧ Below w.heap.size w w'
theorem fresh_of_nil {w w1 : World} {v1 : Value} {l : List UInt8} (h : Own w1 w.heap.size v1 ([] ++ l)) (hg : Grew w w1 (.slice none 0 0) v1) : Fresh w l (.returned v1) w1 :=
  ⟨_, rfl, by simpa using h, hg.below (Nat.le_refl _) (fun g hg => by cases hg)⟩
end Go.Proofs.YthmdaejlopjjoaaGreatDoor
