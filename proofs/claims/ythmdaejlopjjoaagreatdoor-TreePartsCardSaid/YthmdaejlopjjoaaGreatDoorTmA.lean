/-
  lex: words. No program.
  Trees in memory: cells behind which slices lie, and what they lie in. No program.
  tree: what a file's words are read as. No program.
  A map with strings as keys that the call made: what it has, as a list.
  The last element of a row among others is written over. No program.
-/
import Derived.Test.YthmdaejlopjjoaaGreatDoorWords
import Derived.Maps.Own
import Derived.Deep.MidRow
namespace Go.Proofs.YthmdaejlopjjoaaGreatDoor
section
open Go.RowKit
set_option linter.unusedVariables false
set_option linter.unusedSimpArgs false

structure Wd where
  k : Nat
  p : Nat
  t : ByteArray
  n : Int
def Wd.cs (x : Wd) : List Value := [.int .i64 x.k, .int .i64 x.p, .string x.t, .int .i64 x.n]
def wcs (l : List Wd) : List Value := l.flatMap Wd.cs
theorem wcs_snoc (l : List Wd) (x : Wd) : wcs (l ++ [x]) = wcs l ++ x.cs := by simp [wcs]
theorem wcs_cons (x : Wd) (l : List Wd) : wcs (x :: l) = x.cs ++ wcs l := rfl
def dgZ (c : Int) : Bool := decide (48 ≤ c) && decide (c ≤ 57)
def loZ (c : Int) : Bool := decide (97 ≤ c) && decide (c ≤ 122)
def upZ (c : Int) : Bool := decide (65 ≤ c) && decide (c ≤ 90)
/-- May a byte be in an identifier? -/
def idZ (c : Int) : Bool := loZ c || upZ c || dgZ c || (c == 95)
def identL (l : List UInt8) : Bool := !l.isEmpty && decide (l.length ≤ 32) && !dgZ (l.headD 0).toNat && l.all fun x => idZ x.toNat
/-- May a byte be in a path? -/
def pcZ (z : Int) : Bool := (decide (97 ≤ z) && decide (z ≤ 122)) || (decide (65 ≤ z) && decide (z ≤ 90)) || (decide (48 ≤ z) && decide (z ≤ 57)) || (z == 95) || (z == 45) || (z == 46) || (z == 47)
def pathL (l : List UInt8) : Bool := l.all (fun c => pcZ (c.toNat : Nat)) && decide (1 ≤ l.length) && decide (l.length ≤ 64)
end
section
open Go.RowKit
set_option linter.unusedVariables false
set_option linter.unusedSimpArgs false

/-- What a cell holds: a plain value, or a slice of n elements of k cells each. -/
inductive Dv where
  | at_ (v : Value)
  | sl (t : TypeId) (k n : Nat) (cs : List Dv)

mutual
/-- A cell's value holds this, and lies in these blocks, from B on. -/
inductive Mem (w : World) (B : Nat) : Dv → Value → List Nat → Prop
  | at_ (v : Value) (h : v.oneCell' = true) : Mem w B (.at_ v) v []
  | sl (t : TypeId) (k n : Nat) (cs : List Dv) (v : Value) (xs : List Value) (F : List Nat) (h : w.ownsRow B t k v n xs) (hc : MemL w B cs xs F) : Mem w B (.sl t k n cs) v (v.ownBlock.toList ++ F)
inductive MemL (w : World) (B : Nat) : List Dv → List Value → List Nat → Prop
  | nil : MemL w B [] [] []
  | cons (d : Dv) (v : Value) (F : List Nat) (ds : List Dv) (vs : List Value) (G : List Nat) (h : Mem w B d v F) (ht : MemL w B ds vs G) : MemL w B (d :: ds) (v :: vs) (F ++ G)
end

/-- Only these blocks may have turned. -/
structure Kp (S : Nat → Prop) (w w' : World) : Prop where
  os : w'.os = w.os
  tape : w'.tape = w.tape
  output : w'.output = w.output
  size : w.heap.size ≤ w'.heap.size
  block : ∀ k, k < w.heap.size → ¬ S k → w'.heap[k]? = w.heap[k]?

theorem Kp.refl (S : Nat → Prop) (w : World) : Kp S w w := ⟨rfl, rfl, rfl, Nat.le_refl _, fun _ _ _ => rfl⟩
theorem Kp.trans {S : Nat → Prop} {a b c : World} (h : Kp S a b) (k : Kp S b c) : Kp S a c :=
  ⟨k.os.trans h.os, k.tape.trans h.tape, k.output.trans h.output, Nat.le_trans h.size k.size, fun i hi hn => (k.block i (Nat.lt_of_lt_of_le hi h.size) hn).trans (h.block i hi hn)⟩
/-- What turned later may be new to the first world. -/
theorem Kp.trans' {S T : Nat → Prop} {a b c : World} (h : Kp S a b) (k : Kp T b c) (hT : ∀ i, T i → i < a.heap.size → S i) : Kp S a c :=
  ⟨k.os.trans h.os, k.tape.trans h.tape, k.output.trans h.output, Nat.le_trans h.size k.size, fun i hi hn => (k.block i (Nat.lt_of_lt_of_le hi h.size) (fun t => hn (hT i t hi))).trans (h.block i hi hn)⟩
theorem Kp.mono {S T : Nat → Prop} {a b : World} (h : Kp S a b) (hS : ∀ i, S i → i < a.heap.size → T i) : Kp T a b :=
  ⟨h.os, h.tape, h.output, h.size, fun i hi hn => h.block i hi (fun s => hn (hS i s hi))⟩
theorem Kp.drewN {S : Nat → Prop} {a b : World} (h : Kp S a b) (m : Nat) : Kp S a (b.drewN m) := ⟨h.os, h.tape, h.output, h.size, h.block⟩
theorem Kp.drew {S : Nat → Prop} {a b : World} (h : Kp S a b) : Kp S a b.drew := ⟨h.os, h.tape, h.output, h.size, h.block⟩
theorem Kp.alloc {S : Nat → Prop} {a b : World} (h : Kp S a b) (o : Obj) : Kp S a (b.alloc o) :=
  ⟨h.os, h.tape, h.output, Nat.le_trans h.size (by simp), fun i hi hn => (Below.heap_alloc b o i (Nat.lt_of_lt_of_le hi h.size)).trans (h.block i hi hn)⟩
theorem Kp.setCell {S : Nat → Prop} {a b : World} (h : Kp S a b) {p : Addr} (hp : p.block < a.heap.size → S p.block) (u : Value) : Kp S a (b.setCell p u) :=
  ⟨h.os, h.tape, h.output, by simpa using h.size, fun i hi hn => (Below.heap_setCell b p u i (fun e => hn (e ▸ hp (e ▸ hi)))).trans (h.block i hi hn)⟩
theorem Kp.grown {S : Nat → Prop} {a b c : World} (h : Kp S a b) {row : Option Nat} (hg : b.grownBy c row) (hr : ∀ k, row = some k → k < a.heap.size → S k) : Kp S a c :=
  ⟨hg.os.trans h.os, hg.tape.trans h.tape, hg.output.trans h.output, Nat.le_trans h.size hg.size, fun i hi hn => (hg.block i (Nat.lt_of_lt_of_le hi h.size) (fun e => hn (hr i e.symm hi))).trans (h.block i hi hn)⟩
theorem Kp.of_grown {a b : World} {row : Option Nat} (hg : a.grownBy b row) : Kp (fun k => some k = row) a b := ⟨hg.os, hg.tape, hg.output, hg.size, hg.block⟩
theorem Kp.to_grown {a b : World} {g : Nat} (h : Kp (fun k => k = g) a b) : a.grownBy b (some g) := ⟨h.os, h.tape, h.output, h.size, fun k hk hn => h.block k hk (fun e => hn (by rw [e]))⟩
theorem Kp.of_below {a b : World} {B : Nat} (h : Below B a b) : Kp (fun k => B ≤ k) a b := ⟨h.os, h.tape, h.output, h.size, fun k hk hn => h.block k (by omega)⟩
theorem Kp.to_below {a b : World} {B : Nat} {S : Nat → Prop} (h : Kp S a b) (hB : ∀ k, S k → B ≤ k) (hs : B ≤ a.heap.size) : Below B a b := ⟨h.os, h.tape, h.output, h.size, fun k hk => h.block k (by omega) (fun s => by have := hB k s; omega)⟩
theorem Blk.kp {S : Nat → Prop} {w w' : World} {g : Nat} {t : TypeId} {cs : Array Value} (h : Blk w g t cs) (hk : Kp S w w') (hg : ¬ S g) : Blk w' g t cs := h.stays (hk.block g h.lt hg)

theorem ownsRow_stays {w w' : World} {B : Nat} {e : TypeId} {size : Nat} {v : Value} {n : Nat} {xs : List Value} (h : w.ownsRow B e size v n xs) (hb : ∀ g, v.ownBlock = some g → w'.heap[g]? = w.heap[g]?) : w'.ownsRow B e size v n xs := by
  refine ⟨h.1, ?_⟩
  rcases h.2 with hn | ⟨g, cap, cur, rfl, h1, h2, r⟩
  · exact .inl hn
  · exact .inr ⟨g, cap, cur, rfl, h1, (hb g rfl).trans h2, r⟩

mutual
theorem Mem.stays {w w' : World} {B : Nat} : ∀ {d : Dv} {v : Value} {F : List Nat}, Mem w B d v F → (∀ g ∈ F, w'.heap[g]? = w.heap[g]?) → Mem w' B d v F
  | _, _, _, .at_ v h, _ => .at_ v h
  | _, _, _, .sl t k n cs v xs F h hc, hb =>
    .sl t k n cs v xs F (ownsRow_stays h fun g e => hb g (by rw [e]; simp)) (MemL.stays hc fun g hg => hb g (List.mem_append_right _ hg))
theorem MemL.stays {w w' : World} {B : Nat} : ∀ {d : List Dv} {v : List Value} {F : List Nat}, MemL w B d v F → (∀ g ∈ F, w'.heap[g]? = w.heap[g]?) → MemL w' B d v F
  | _, _, _, .nil, _ => .nil
  | _, _, _, .cons d v F ds vs G h ht, hb =>
    .cons d v F ds vs G (Mem.stays h fun g hg => hb g (List.mem_append_left _ hg)) (MemL.stays ht fun g hg => hb g (List.mem_append_right _ hg))
end
mutual
theorem Mem.lt {w : World} {B : Nat} : ∀ {d : Dv} {v : Value} {F : List Nat}, Mem w B d v F → ∀ g ∈ F, B ≤ g ∧ g < w.heap.size
  | _, _, _, .at_ v _, g, hg => by cases hg
  | _, _, _, .sl t k n cs v xs F h hc, g, hg => by
    rcases List.mem_append.mp hg with e | e
    · exact h.lt g (by simpa using e)
    · exact MemL.lt hc g e
theorem MemL.lt {w : World} {B : Nat} : ∀ {d : List Dv} {v : List Value} {F : List Nat}, MemL w B d v F → ∀ g ∈ F, B ≤ g ∧ g < w.heap.size
  | _, _, _, .nil, g, hg => by cases hg
  | _, _, _, .cons d v F ds vs G h ht, g, hg => by
    rcases List.mem_append.mp hg with e | e
    · exact Mem.lt h g e
    · exact MemL.lt ht g e
end
theorem ownsRow_base {w : World} {B B' : Nat} {e : TypeId} {size : Nat} {v : Value} {n : Nat} {xs : List Value} (h : w.ownsRow B e size v n xs) (hb : B' ≤ B) : w.ownsRow B' e size v n xs := by
  refine ⟨h.1, ?_⟩
  rcases h.2 with hn | ⟨g, cap, cur, rfl, h1, r⟩
  · exact .inl hn
  · exact .inr ⟨g, cap, cur, rfl, by omega, r⟩
mutual
theorem Mem.base {w : World} {B B' : Nat} (hb : B' ≤ B) : ∀ {d : Dv} {v : Value} {F : List Nat}, Mem w B d v F → Mem w B' d v F
  | _, _, _, .at_ v h => .at_ v h
  | _, _, _, .sl t k n cs v xs F h hc => .sl t k n cs v xs F (ownsRow_base h hb) (MemL.base hb hc)
theorem MemL.base {w : World} {B B' : Nat} (hb : B' ≤ B) : ∀ {d : List Dv} {v : List Value} {F : List Nat}, MemL w B d v F → MemL w B' d v F
  | _, _, _, .nil => .nil
  | _, _, _, .cons d v F ds vs G h ht => .cons d v F ds vs G (Mem.base hb h) (MemL.base hb ht)
end
mutual
theorem Mem.one {w : World} {B : Nat} : ∀ {d : Dv} {v : Value} {F : List Nat}, Mem w B d v F → v.oneCell' = true
  | _, _, _, .at_ v h => h
  | _, _, _, .sl t k n cs v xs F h hc => by
    rcases h.2 with ⟨rfl, _⟩ | ⟨g, cap, cur, rfl, _⟩ <;> rfl
theorem MemL.one {w : World} {B : Nat} : ∀ {d : List Dv} {v : List Value} {F : List Nat}, MemL w B d v F → ∀ u ∈ v, u.oneCell' = true
  | _, _, _, .nil, u, hu => by cases hu
  | _, _, _, .cons d v F ds vs G h ht, u, hu => by
    rcases List.mem_cons.mp hu with rfl | e
    · exact Mem.one h
    · exact MemL.one ht u e
end
theorem MemL.len {w : World} {B : Nat} : ∀ {d : List Dv} {v : List Value} {F : List Nat}, MemL w B d v F → v.length = d.length
  | _, _, _, .nil => rfl
  | _, _, _, .cons d v F ds vs G h ht => by simp [MemL.len ht]
theorem MemL.app {w : World} {B : Nat} {ds' : List Dv} {vs' : List Value} {F' : List Nat} (h2 : MemL w B ds' vs' F') : ∀ {ds : List Dv} {vs : List Value} {F : List Nat}, MemL w B ds vs F → MemL w B (ds ++ ds') (vs ++ vs') (F ++ F')
  | _, _, _, .nil => h2
  | _, _, _, .cons d v F ds vs G h ht => by
    rw [List.append_assoc]
    exact .cons d v F _ _ _ h (MemL.app h2 ht)
/-- Plain cells. -/
theorem MemL.plain (w : World) (B : Nat) : ∀ (vs : List Value), (∀ u ∈ vs, u.oneCell' = true) → MemL w B (vs.map Dv.at_) vs []
  | [], _ => .nil
  | v :: vs, h => .cons (.at_ v) v [] _ vs [] (.at_ v (h v (List.mem_cons_self ..))) (MemL.plain w B vs fun u hu => h u (List.mem_cons_of_mem _ hu))

/-- A row that is being made: its value, what its elements hold. -/
structure Rw where
  t : TypeId
  k : Nat
  n : Nat
  cs : List Dv
  v : Value
def owns (rs : List Rw) : List Nat := rs.filterMap fun r => r.v.ownBlock
/-- Rows that are being made side by side; C: the blocks of what their elements hold. -/
structure Rows_ (w : World) (B : Nat) (rs : List Rw) (C : List Nat) : Prop where
  row : ∀ r ∈ rs, ∃ xs F, w.ownsRow B r.t r.k r.v r.n xs ∧ MemL w B r.cs xs F ∧ ∀ g ∈ F, g ∈ C
  two : (owns rs).Nodup
  far : ∀ g ∈ C, g ∉ owns rs
  lt : ∀ g ∈ C, B ≤ g ∧ g < w.heap.size

theorem Rows_.own_lt {w : World} {B : Nat} {rs : List Rw} {C : List Nat} (h : Rows_ w B rs C) : ∀ g ∈ owns rs, B ≤ g ∧ g < w.heap.size := by
  intro g hg
  obtain ⟨r, hr, e⟩ := List.mem_filterMap.mp hg
  obtain ⟨xs, F, ho, _⟩ := h.row r hr
  exact ho.lt g e
theorem Rows_.stays {w w' : World} {B : Nat} {rs : List Rw} {C : List Nat} (h : Rows_ w B rs C) (hs : w.heap.size ≤ w'.heap.size) (h1 : ∀ g, B ≤ g → g < w.heap.size → w'.heap[g]? = w.heap[g]?) : Rows_ w' B rs C := by
  refine ⟨fun r hr => ?_, h.two, h.far, fun g hg => ⟨(h.lt g hg).1, by have := (h.lt g hg).2; omega⟩⟩
  obtain ⟨xs, F, ho, hm, hF⟩ := h.row r hr
  exact ⟨xs, F, ownsRow_stays ho fun g e => h1 g (ho.lt g e).1 (ho.lt g e).2, hm.stays fun g hg => h1 g (h.lt g (hF g hg)).1 (h.lt g (hF g hg)).2, hF⟩
theorem Rows_.kp {S : Nat → Prop} {w w' : World} {B : Nat} {rs : List Rw} {C : List Nat} (h : Rows_ w B rs C) (hk : Kp S w w') (hS : ∀ g, S g → g < B) : Rows_ w' B rs C :=
  h.stays hk.size fun g h1 h2 => hk.block g h2 (fun s => by have := hS g s; omega)
theorem Rows_.drewN {w : World} {B : Nat} {rs : List Rw} {C : List Nat} (h : Rows_ w B rs C) (m : Nat) : Rows_ (w.drewN m) B rs C := h.stays (Nat.le_refl _) fun _ _ _ => rfl
theorem Rows_.alloc {w : World} {B : Nat} {rs : List Rw} {C : List Nat} (h : Rows_ w B rs C) (o : Obj) : Rows_ (w.alloc o) B rs C :=
  h.stays (by simp) fun g _ hg => Below.heap_alloc w o g hg
theorem Rows_.setCell {w : World} {B : Nat} {rs : List Rw} {C : List Nat} (h : Rows_ w B rs C) {p : Addr} (hp : p.block < B) (u : Value) : Rows_ (w.setCell p u) B rs C :=
  h.stays (by simp) fun g hg _ => Below.heap_setCell w p u g (by omega)
theorem Rows_.nils (w : World) (B : Nat) : ∀ (l : List (TypeId × Nat)), Rows_ w B (l.map fun p => ⟨p.1, p.2, 0, [], .slice none 0 0⟩) [] := by
  intro l
  have ho : ∀ l : List (TypeId × Nat), owns (l.map fun p => ⟨p.1, p.2, 0, [], .slice none 0 0⟩) = [] := by
    intro l
    induction l with
    | nil => rfl
    | cons p l ih => exact ih
  refine ⟨fun r hr => ?_, by rw [ho]; exact List.nodup_nil, (fun g hg => by cases hg), (fun g hg => by cases hg)⟩
  obtain ⟨p, _, rfl⟩ := List.mem_map.mp hr
  exact ⟨[], [], World.ownsRow_nil _ _ _ _, .nil, fun g hg => by cases hg⟩
theorem owns_set : ∀ (rs : List Rw) (i : Nat) (r r' : Rw), rs[i]? = some r → r'.v.ownBlock = r.v.ownBlock → owns (rs.set i r') = owns rs
  | [], _, _, _, h, _ => by simp at h
  | a :: rs, 0, r, r', h, e => by
    simp only [List.getElem?_cons_zero, Option.some.injEq] at h
    subst h
    simp only [List.set_cons_zero, owns, List.filterMap_cons, e]
  | a :: rs, i + 1, r, r', h, e => by
    have ih := owns_set rs i r r' (by simpa using h) e
    simp only [List.set_cons_succ, owns, List.filterMap_cons] at ih ⊢
    rw [ih]
theorem owns_set_mem : ∀ (rs : List Rw) (i : Nat) (r' : Rw) (g : Nat), g ∈ owns (rs.set i r') → r'.v.ownBlock = some g ∨ g ∈ owns rs := by
  intro rs i r' g hg
  obtain ⟨r, hr, e⟩ := List.mem_filterMap.mp hg
  rcases List.mem_or_eq_of_mem_set hr with h | h
  · exact .inr (List.mem_filterMap.mpr ⟨r, h, e⟩)
  · subst h; exact .inl e
theorem owns_set_nodup : ∀ (rs : List Rw) (i : Nat) (r' : Rw) (g : Nat), (owns rs).Nodup → r'.v.ownBlock = some g → g ∉ owns rs → (owns (rs.set i r')).Nodup
  | [], _, _, _, h, _, _ => h
  | a :: rs, 0, r', g, h, e, hg => by
    simp only [List.set_cons_zero, owns, List.filterMap_cons, e]
    have h2 : (owns rs).Nodup ∧ g ∉ owns rs := by
      simp only [owns, List.filterMap_cons] at h hg
      cases ha : a.v.ownBlock with
      | none => rw [ha] at h hg; exact ⟨h, hg⟩
      | some q =>
        rw [ha] at h hg
        exact ⟨(List.nodup_cons.mp h).2, fun hm => hg (List.mem_cons_of_mem _ hm)⟩
    exact List.nodup_cons.mpr ⟨h2.2, h2.1⟩
  | a :: rs, i + 1, r', g, h, e, hg => by
    simp only [List.set_cons_succ, owns, List.filterMap_cons] at h hg ⊢
    cases ha : a.v.ownBlock with
    | none =>
      rw [ha] at h hg
      exact owns_set_nodup rs i r' g h e hg
    | some q =>
      rw [ha] at h hg
      have h1 := List.nodup_cons.mp h
      refine List.nodup_cons.mpr ⟨fun hm => ?_, owns_set_nodup rs i r' g h1.2 e fun hm => hg (List.mem_cons_of_mem _ hm)⟩
      rcases owns_set_mem rs i r' q hm with e2 | e2
      · rw [e] at e2; injection e2 with e2; exact hg (by rw [e2]; exact List.mem_cons_self ..)
      · exact h1.1 e2
/-- One row has grown by an element. -/
theorem Rows_.set_ {w w' : World} {B : Nat} {rs : List Rw} {C G : List Nat} (h : Rows_ w B rs C) (i : Nat) (r : Rw) (hi : rs[i]? = some r) (v' : Value) (m : Nat) (ds : List Dv) (vs : List Value)
    (hg : w.grownBy w' r.v.ownBlock) (hv : v'.ownBlock = r.v.ownBlock ∨ v'.ownBlock = some w.heap.size)
    (ho : ∀ xs, w.ownsRow B r.t r.k r.v r.n xs → w'.ownsRow B r.t r.k v' (r.n + m) (xs ++ vs)) (hG : MemL w B ds vs G) (hGf : ∀ g ∈ G, g ∉ owns rs) :
    Rows_ w' B (rs.set i ⟨r.t, r.k, r.n + m, r.cs ++ ds, v'⟩) (C ++ G) := by
  have hrm : r ∈ rs := List.mem_of_getElem? hi
  have keepC : ∀ g ∈ C ++ G, w'.heap[g]? = w.heap[g]? := by
    intro g hm
    have hf : g ∉ owns rs := by
      rcases List.mem_append.mp hm with h1 | h1
      · exact h.far g h1
      · exact hGf g h1
    have hl : g < w.heap.size := by
      rcases List.mem_append.mp hm with h1 | h1
      · exact (h.lt g h1).2
      · exact (hG.lt g h1).2
    exact hg.block g hl fun e => hf (List.mem_filterMap.mpr ⟨r, hrm, e.symm⟩)
  refine ⟨fun q hq => ?_, ?_, fun g hm => ?_, fun g hm => ?_⟩
  · obtain ⟨j, hj⟩ := List.getElem?_of_mem hq
    by_cases hij : j = i
    · subst hij
      have hlt : j < rs.length := List.getElem?_eq_some_iff.mp hi |>.1
      rw [List.getElem?_set_self hlt] at hj
      injection hj with hj
      subst hj
      obtain ⟨xs, F, o1, o2, o3⟩ := h.row r hrm
      refine ⟨xs ++ vs, F ++ G, ho xs o1, ?_, fun g hm => ?_⟩
      · exact MemL.app (hG.stays fun g hm => keepC g (List.mem_append_right _ hm)) (o2.stays fun g hm => keepC g (List.mem_append_left _ (o3 g hm)))
      · rcases List.mem_append.mp hm with h1 | h1
        · exact List.mem_append_left _ (o3 g h1)
        · exact List.mem_append_right _ h1
    · rw [List.getElem?_set_ne (by omega)] at hj
      obtain ⟨xs, F, o1, o2, o3⟩ := h.row q (List.mem_of_getElem? hj)
      refine ⟨xs, F, ownsRow_stays o1 fun g e => hg.block g (o1.lt g e).2 fun e2 => ?_, o2.stays fun g hm => keepC g (List.mem_append_left _ (o3 g hm)), fun g hm => List.mem_append_left _ (o3 g hm)⟩
      have hno := h.two
      have key : ∀ (l : List Rw) (a b : Nat) (x y : Rw), (owns l).Nodup → l[a]? = some x → l[b]? = some y → a ≠ b → x.v.ownBlock = some g → y.v.ownBlock = some g → False := by
        intro l
        induction l with
        | nil => intro a b x y _ hx; simp at hx
        | cons z l ih =>
          intro a b x y hn hx hy hab ex ey
          have hl : (owns l).Nodup := by
            simp only [owns, List.filterMap_cons] at hn
            cases hz : z.v.ownBlock with
            | none => rw [hz] at hn; exact hn
            | some q => rw [hz] at hn; exact (List.nodup_cons.mp hn).2
          have hz : ∀ (u : Rw) (c : Nat), z.v.ownBlock = some g → l[c]? = some u → u.v.ownBlock = some g → False := by
            intro u c e1 hu e3
            simp only [owns, List.filterMap_cons, e1] at hn
            exact (List.nodup_cons.mp hn).1 (List.mem_filterMap.mpr ⟨u, List.mem_of_getElem? hu, e3⟩)
          cases a with
          | zero =>
            cases b with
            | zero => exact hab rfl
            | succ b =>
              simp only [List.getElem?_cons_zero, Option.some.injEq] at hx
              subst hx
              exact hz y b ex (by simpa using hy) ey
          | succ a =>
            cases b with
            | zero =>
              simp only [List.getElem?_cons_zero, Option.some.injEq] at hy
              subst hy
              exact hz x a ey (by simpa using hx) ex
            | succ b => exact ih a b x y hl (by simpa using hx) (by simpa using hy) (by omega) ex ey
      exact key rs j i q r hno hj hi hij e e2.symm
  · rcases hv with e | e
    · rw [owns_set rs i r _ hi e]; exact h.two
    · exact owns_set_nodup rs i _ _ h.two e fun hm => by have := (h.own_lt _ hm).2; omega
  · intro hm2
    rcases owns_set_mem _ _ _ _ hm2 with e | e
    · rcases hv with e2 | e2
      · have : g ∈ owns rs := List.mem_filterMap.mpr ⟨r, hrm, by rw [← e2]; exact e⟩
        rcases List.mem_append.mp hm with h1 | h1
        · exact h.far g h1 this
        · exact hGf g h1 this
      · have hgs : g = w.heap.size := by
          have e3 : v'.ownBlock = some g := e
          rw [e2] at e3; injection e3 with e3; exact e3.symm
        rcases List.mem_append.mp hm with h1 | h1
        · have := (h.lt g h1).2; omega
        · have := (hG.lt g h1).2; omega
    · rcases List.mem_append.mp hm with h1 | h1
      · exact h.far g h1 e
      · exact hGf g h1 e
  · have hs := hg.size
    rcases List.mem_append.mp hm with h1 | h1
    · exact ⟨(h.lt g h1).1, by have := (h.lt g h1).2; omega⟩
    · exact ⟨(hG.lt g h1).1, by have := (hG.lt g h1).2; omega⟩
/-- Rows as cells of what they are part of. -/
theorem Rows_.mem {w : World} {B : Nat} : ∀ {rs : List Rw} {C : List Nat}, Rows_ w B rs C → ∃ F, MemL w B (rs.map fun r => .sl r.t r.k r.n r.cs) (rs.map fun r => r.v) F ∧ ∀ g ∈ F, g ∈ owns rs ∨ g ∈ C := by
  intro rs C h
  have : ∀ l : List Rw, (∀ r ∈ l, r ∈ rs) → ∃ F, MemL w B (l.map fun r => .sl r.t r.k r.n r.cs) (l.map fun r => r.v) F ∧ ∀ g ∈ F, g ∈ owns rs ∨ g ∈ C := by
    intro l
    induction l with
    | nil => exact fun _ => ⟨[], .nil, fun g hg => by cases hg⟩
    | cons r l ih =>
      intro hl
      obtain ⟨F, h1, h2⟩ := ih fun q hq => hl q (List.mem_cons_of_mem _ hq)
      have hr := hl r (List.mem_cons_self ..)
      obtain ⟨xs, G, o1, o2, o3⟩ := h.row r hr
      refine ⟨(r.v.ownBlock.toList ++ G) ++ F, .cons _ _ _ _ _ _ (.sl _ _ _ _ _ xs G o1 o2) h1, fun g hg => ?_⟩
      rcases List.mem_append.mp hg with hg | hg
      · rcases List.mem_append.mp hg with hg | hg
        · exact .inl (List.mem_filterMap.mpr ⟨r, hr, by simpa using hg⟩)
        · exact .inr (o3 g hg)
      · exact h2 g hg
  exact this rs fun r hr => hr
theorem ownsRow_one {w : World} {B B' : Nat} {e : TypeId} {size : Nat} {v : Value} {n : Nat} {xs ys : List Value} (h : w.ownsRow B e size v n xs) (k : w.ownsRow B' e size v n ys) : xs = ys := by
  rcases h.2 with ⟨rfl, hn⟩ | ⟨g, cap, cur, rfl, _, h2, _, _, _, h3⟩
  · have h1 := h.1
    have h2 := k.1
    subst hn
    simp only [Nat.zero_mul] at h1 h2
    rw [List.eq_nil_of_length_eq_zero h1, List.eq_nil_of_length_eq_zero h2]
  · rcases k.2 with ⟨e1, _⟩ | ⟨g', cap', cur', e1, _, k2, _, _, _, k3⟩
    · cases e1
    · injection e1 with e1 _ e2
      injection e1 with e1
      injection e1 with e1
      subst e1
      rw [h2] at k2
      injection k2 with k2
      injection k2 with k2
      subst k2
      exact h3.symm.trans k3
theorem MemL.len_k {w : World} {B : Nat} {rs : List Rw} {C : List Nat} (h : Rows_ w B rs C) {r : Rw} (hr : r ∈ rs) : r.cs.length = r.n * r.k := by
  obtain ⟨xs, F, o, m, _⟩ := h.row r hr
  rw [← MemL.len m]; exact o.1
theorem set_same {α : Type} {rs : List α} {j : Nat} {r : α} (hj : rs[j]? = some r) : rs.set j r = rs := by
  refine List.ext_getElem? fun i => ?_
  rw [List.getElem?_set]
  split
  · rename_i e
    subst e
    rw [hj]
    split
    · rfl
    · rename_i h
      exact absurd (List.getElem?_eq_some_iff.mp hj).1 h
  · rfl
theorem set_at {α : Type} {rs : List α} {j : Nat} {r : α} (hj : rs[j]? = some r) (r' : α) : (rs.set j r')[j]? = some r' := List.getElem?_set_self (List.getElem?_eq_some_iff.mp hj).1
theorem Rows_.val {w : World} {B : Nat} {rs : List Rw} {C : List Nat} (h : Rows_ w B rs C) {j : Nat} {r : Rw} (hj : rs[j]? = some r) : ∃ A c, r.v = .slice A r.n c ∧ r.n ≤ c ∧ c ≤ 9223372036854775807 := by
  obtain ⟨xs, F, o, _⟩ := h.row r (List.mem_of_getElem? hj)
  rcases o.2 with ⟨e, hn⟩ | ⟨q, cap, cur, e, _, _, h1, h2, _⟩
  · exact ⟨none, 0, by rw [e, hn], by omega, by omega⟩
  · exact ⟨_, cap, e, h1, by unfold maxLen at h2; omega⟩
theorem Rows_.own_mem {w : World} {B : Nat} {rs : List Rw} {C : List Nat} (h : Rows_ w B rs C) {j : Nat} {r : Rw} (hj : rs[j]? = some r) {q : Nat} (hq : r.v.ownBlock = some q) : q ∈ owns rs ∧ B ≤ q ∧ q < w.heap.size := by
  have hm : q ∈ owns rs := List.mem_filterMap.mpr ⟨r, List.mem_of_getElem? hj, hq⟩
  exact ⟨hm, h.own_lt q hm⟩
/-- An append of one element to a row among others. -/
theorem run_append_rows {P : Program} {w : World} {B : Nat} {rs : List Rw} {C G : List Nat} (h : Rows_ w B rs C) (j : Nat) (r : Rw) (hj : rs[j]? = some r)
    (t ty : TypeId) (i : TypeInfo) (z : Value) (bytes : Nat) (ht : P.underlying t = some (.slice r.t)) (hi : P.info? r.t = some i) (hz : i.zero = some z) (hsize : i.size = r.k) (hby : i.bytes = bytes) (hzs : z.cells.size = r.k) (hk : 0 < r.k)
    (b : Nat) (cs : Array Value) (ds : List Dv) (hb : Blk w b r.t cs) (hcs : cs.size = r.k) (hm : MemL w B ds cs.toList G) (hG : ∀ g ∈ G, g ∉ owns rs)
    (hlen : r.n ≤ 1000000) (hbytes : bytes ≤ 1000000) (hB : B ≤ w.heap.size) :
    ∃ v' w', (Builtin.append_ #[t, t] ty #[r.v, .slice (some ⟨b, 0, none⟩) 1 1]).run P w = .ok v' w' ∧ Rows_ w' B (rs.set j ⟨r.t, r.k, r.n + 1, r.cs ++ ds, v'⟩) (C ++ G) ∧ w.grownBy w' r.v.ownBlock ∧ (v'.ownBlock = r.v.ownBlock ∨ v'.ownBlock = some w.heap.size) := by
  obtain ⟨xs, F, o1, o2, o3⟩ := h.row r (List.mem_of_getElem? hj)
  have hbytes2 : (r.n + 1) * bytes ≤ 140737488355328 := Nat.le_trans (Nat.mul_le_mul (show r.n + 1 ≤ 1000001 by omega) hbytes) (by omega)
  obtain ⟨v', w', hrun, h2, h3, h4, h5⟩ := run_append_own_at (P := P) w B t ty r.t i z r.k bytes ht hi hz hsize hby hzs hk r.v r.n xs o1 ⟨b, 0, none⟩ 1 1 cs.toList (by simp [hcs]) (World.news_of_block hb) (MemL.one hm) (by unfold maxLen; omega) hbytes2 hB
  refine ⟨v', w', hrun, Rows_.set_ h j r hj v' 1 ds cs.toList h3 h5 (fun ys hy => ?_) hm hG, h3, h5⟩
  rw [ownsRow_one hy o1]
  exact h2
section
variable {P : Program} (w : World)
theorem wp_append_rows {o : Oper} {a : Act} {K : Act → World → Prop} {Q : Exit → Act → World → Prop} (s x : Operand) (t : TypeId)
    (ho : o.op = .call { callee := .builtin .append, args := #[s, x], argTypes := #[t, t] }) {B : Nat} {rs : List Rw} {C G : List Nat} (h : Rows_ w B rs C) (j : Nat) (r : Rw) (hj : rs[j]? = some r)
    (i : TypeInfo) (z : Value) (bytes : Nat) (ht : P.underlying t = some (.slice r.t)) (hi : P.info? r.t = some i) (hz : i.zero = some z) (hsize : i.size = r.k) (hby : i.bytes = bytes) (hzs : z.cells.size = r.k) (hk : 0 < r.k)
    (hs : a.eval s = r.v) (b : Nat) (hx : a.eval x = .slice (some ⟨b, 0, none⟩) 1 1) (cs : Array Value) (ds : List Dv) (hb : Blk w b r.t cs) (hcs : cs.size = r.k) (hm : MemL w B ds cs.toList G) (hG : ∀ g ∈ G, g ∉ owns rs)
    (hlen : r.n ≤ 1000000) (hbytes : bytes ≤ 1000000) (hB : B ≤ w.heap.size)
    (hq : ∀ v' w', Rows_ w' B (rs.set j ⟨r.t, r.k, r.n + 1, r.cs ++ ds, v'⟩) (C ++ G) → w.grownBy w' r.v.ownBlock → (v'.ownBlock = r.v.ownBlock ∨ v'.ownBlock = some w.heap.size) → K (a.put o.dst v') w') : o.wp P a w K Q := by
  obtain ⟨v', w', hrun, h2, h3, h5⟩ := run_append_rows (P := P) h j r hj t o.type i z bytes ht hi hz hsize hby hzs hk b cs ds hb hcs hm hG hlen hbytes hB
  unfold Oper.wp execOp
  simp only [ho, resolve, invoke, builtin, Sem.run_bind, Sem.run_pure, Result.andThen_ok, List.map_toArray, List.map_cons, List.map_nil, hs, hx, hrun]
  exact hq v' w' h2 h3 h5
theorem wpList_append_rows {ops : Array Oper} {rest : List Oper} {o : Oper} {a : Act} {Q : Exit → Act → World → Prop} (hgd : o.guard = none) (s x : Operand) (t : TypeId)
    (ho : o.op = .call { callee := .builtin .append, args := #[s, x], argTypes := #[t, t] }) {B : Nat} {rs : List Rw} {C G : List Nat} (h : Rows_ w B rs C) (j : Nat) (r : Rw) (hj : rs[j]? = some r)
    (i : TypeInfo) (z : Value) (bytes : Nat) (ht : P.underlying t = some (.slice r.t)) (hi : P.info? r.t = some i) (hz : i.zero = some z) (hsize : i.size = r.k) (hby : i.bytes = bytes) (hzs : z.cells.size = r.k) (hk : 0 < r.k)
    (hs : a.eval s = r.v) (b : Nat) (hx : a.eval x = .slice (some ⟨b, 0, none⟩) 1 1) (cs : Array Value) (ds : List Dv) (hb : Blk w b r.t cs) (hcs : cs.size = r.k) (hm : MemL w B ds cs.toList G) (hG : ∀ g ∈ G, g ∉ owns rs)
    (hlen : r.n ≤ 1000000) (hbytes : bytes ≤ 1000000) (hB : B ≤ w.heap.size)
    (hq : ∀ v' w', Rows_ w' B (rs.set j ⟨r.t, r.k, r.n + 1, r.cs ++ ds, v'⟩) (C ++ G) → w.grownBy w' r.v.ownBlock → (v'.ownBlock = r.v.ownBlock ∨ v'.ownBlock = some w.heap.size) → wpList P ops Q rest (a.put o.dst v') w') : wpList P ops Q (o :: rest) a w :=
  wpList_plain hgd fun _ hK => wp_append_rows w s x t ho h j r hj i z bytes ht hi hz hsize hby hzs hk hs b hx cs ds hb hcs hm hG hlen hbytes hB fun v' w' h2 h3 h5 => hK _ _ (hq v' w' h2 h3 h5)
end
end
section
open Go.RowKit
set_option linter.unusedVariables false
set_option linter.unusedSimpArgs false

abbrev kSemi : ByteArray := ⟨#[59]⟩
abbrev kMsg : ByteArray := ⟨#[109, 101, 115, 115, 97, 103, 101]⟩
abbrev kEnum : ByteArray := ⟨#[101, 110, 117, 109]⟩
abbrev kOneof : ByteArray := ⟨#[111, 110, 101, 111, 102]⟩
abbrev kRes : ByteArray := ⟨#[114, 101, 115, 101, 114, 118, 101, 100]⟩
abbrev kOpt : ByteArray := ⟨#[111, 112, 116, 105, 111, 110, 97, 108]⟩
abbrev kRep : ByteArray := ⟨#[114, 101, 112, 101, 97, 116, 101, 100]⟩
abbrev kMap : ByteArray := ⟨#[109, 97, 112]⟩
abbrev kOption : ByteArray := ⟨#[111, 112, 116, 105, 111, 110]⟩
abbrev kExts : ByteArray := ⟨#[101, 120, 116, 101, 110, 115, 105, 111, 110, 115]⟩
abbrev kExt : ByteArray := ⟨#[101, 120, 116, 101, 110, 100]⟩
abbrev kGrp : ByteArray := ⟨#[103, 114, 111, 117, 112]⟩
abbrev kPkg : ByteArray := ⟨#[112, 97, 99, 107, 97, 103, 101]⟩
abbrev kImp : ByteArray := ⟨#[105, 109, 112, 111, 114, 116]⟩
abbrev kSvc : ByteArray := ⟨#[115, 101, 114, 118, 105, 99, 101]⟩
abbrev kRpc : ByteArray := ⟨#[114, 112, 99]⟩
abbrev kPub : ByteArray := ⟨#[112, 117, 98, 108, 105, 99]⟩
abbrev kSyn : ByteArray := ⟨#[115, 121, 110, 116, 97, 120]⟩
abbrev kP3 : ByteArray := ⟨#[112, 114, 111, 116, 111, 51]⟩
abbrev kEq : ByteArray := ⟨#[61]⟩
abbrev kOpen : ByteArray := ⟨#[123]⟩
abbrev kShut : ByteArray := ⟨#[125]⟩
abbrev kLt : ByteArray := ⟨#[60]⟩
abbrev kGt : ByteArray := ⟨#[62]⟩
abbrev kComma : ByteArray := ⟨#[44]⟩
abbrev kDot : ByteArray := ⟨#[46]⟩
abbrev kLpar : ByteArray := ⟨#[40]⟩
abbrev kRpar : ByteArray := ⟨#[41]⟩
abbrev kLbr : ByteArray := ⟨#[91]⟩
abbrev kRbr : ByteArray := ⟨#[93]⟩
abbrev kRet : ByteArray := ⟨#[114, 101, 116, 117, 114, 110, 115]⟩
abbrev kJson : ByteArray := ⟨#[106, 115, 111, 110, 95, 110, 97, 109, 101]⟩
abbrev kMinus : ByteArray := ⟨#[45]⟩
abbrev kTo : ByteArray := ⟨#[116, 111]⟩
abbrev kMax : ByteArray := ⟨#[109, 97, 120]⟩
abbrev kNone : ByteArray := ⟨#[]⟩

/-! What a file has. -/
structure Im where
  path : ByteArray
  pub : Bool
  at_ : Int
structure Tx where
  s : ByteArray
  at_ : Int
structure Sp where
  lo : Int
  hi : Int
  at_ : Int
structure Fd where
  name : ByteArray
  typ : ByteArray
  key : ByteArray
  json : ByteArray
  card : Int
  num : Int
  oneof : Int
  at_ : Int
  tat : Int
  nat_ : Int
structure Vl where
  name : ByteArray
  num : Int
  at_ : Int
structure En where
  name : ByteArray
  at_ : Int
  vals : List Vl
  rngs : List Sp
  nams : List Tx
structure Rp where
  name : ByteArray
  inn : ByteArray
  out : ByteArray
  at_ : Int
  iat : Int
  oat : Int
structure Sv where
  name : ByteArray
  at_ : Int
  rpcs : List Rp
structure Ms where
  name : ByteArray
  at_ : Int
  flds : List Fd
  onos : List Tx
  msgs : List Ms
  enums : List En
  rngs : List Sp
  nams : List Tx
structure Tr where
  pkg : ByteArray
  imps : List Im
  msgs : List Ms
  enums : List En
  svcs : List Sv

/-! As cells. -/
def sv (s : ByteArray) : Dv := .at_ (.string s)
def iv (n : Int) : Dv := .at_ (.int .i64 n)
def Im.dv (x : Im) : List Dv := [sv x.path, .at_ (.bool x.pub), iv x.at_]
def Tx.dv (x : Tx) : List Dv := [sv x.s, iv x.at_]
def Sp.dv (x : Sp) : List Dv := [iv x.lo, iv x.hi, iv x.at_]
def Fd.dv (x : Fd) : List Dv := [sv x.name, sv x.typ, sv x.key, sv x.json, iv x.card, iv x.num, iv x.oneof, iv x.at_, iv x.tat, iv x.nat_]
def Vl.dv (x : Vl) : List Dv := [sv x.name, iv x.num, iv x.at_]
def Rp.dv (x : Rp) : List Dv := [sv x.name, sv x.inn, sv x.out, iv x.at_, iv x.iat, iv x.oat]
/-- The types of the elements of lists, by number. -/
structure Ty where
  im : TypeId
  tx : TypeId
  sp : TypeId
  fd : TypeId
  vl : TypeId
  rp : TypeId
  en : TypeId
  sv : TypeId
  ms : TypeId
def lsD {α : Type} (t : TypeId) (k : Nat) (f : α → List Dv) (l : List α) : Dv := .sl t k l.length (l.flatMap f)
def En.dv (T : Ty) (x : En) : List Dv := [Go.Proofs.YthmdaejlopjjoaaGreatDoor.sv x.name, iv x.at_, lsD T.vl 3 Vl.dv x.vals, lsD T.sp 3 Sp.dv x.rngs, lsD T.tx 2 Tx.dv x.nams]
def Sv.dv (T : Ty) (x : Sv) : List Dv := [Go.Proofs.YthmdaejlopjjoaaGreatDoor.sv x.name, iv x.at_, lsD T.rp 6 Rp.dv x.rpcs]
mutual
def Ms.dv (T : Ty) : Ms → List Dv
  | ⟨name, at_, flds, onos, msgs, enums, rngs, nams⟩ =>
    [Go.Proofs.YthmdaejlopjjoaaGreatDoor.sv name, iv at_, lsD T.fd 10 Fd.dv flds, lsD T.tx 2 Tx.dv onos, .sl T.ms 8 msgs.length (msL T msgs), lsD T.en 5 (En.dv T) enums, lsD T.sp 3 Sp.dv rngs, lsD T.tx 2 Tx.dv nams]
def msL (T : Ty) : List Ms → List Dv
  | [] => []
  | m :: l => Ms.dv T m ++ msL T l
end
theorem msL_eq (T : Ty) : ∀ l, msL T l = l.flatMap (Ms.dv T)
  | [] => rfl
  | m :: l => by rw [msL, List.flatMap_cons, msL_eq T l]
def Tr.dv (T : Ty) (x : Tr) : List Dv := [Go.Proofs.YthmdaejlopjjoaaGreatDoor.sv x.pkg, lsD T.im 3 Im.dv x.imps, lsD T.ms 8 (Ms.dv T) x.msgs, lsD T.en 5 (En.dv T) x.enums, lsD T.sv 3 (Sv.dv T) x.svcs]

/-! Reading: an error at a place, or what was read and the words that are left. -/
inductive Pz (α : Type) where
  | no (at_ e : Nat)
  | ok (a : α) (l : List Wd)
def Pz.and {α β : Type} : Pz α → (α → List Wd → Pz β) → Pz β
  | .no p e, _ => .no p e
  | .ok a l, f => f a l
def hdW (l : List Wd) : Wd := l.headD ⟨0, 0, ⟨#[]⟩, 0⟩
def sayW (l : List Wd) : ByteArray := if (hdW l).k = 3 then ⟨#[]⟩ else (hdW l).t
def refuse {α : Type} (l : List Wd) : Pz α := .no (hdW l).p 40
def roomP {α : Type} (n most : Nat) (l : List Wd) (r : Pz α) : Pz α := if most ≤ n then .no (hdW l).p 5 else r
def expP : List ByteArray → List Wd → Pz Unit
  | [], l => .ok () l
  | s :: r, l => if sayW l = s then expP r l.tail else refuse l
def ofP (k : Nat) (l : List Wd) : Pz Wd := if (hdW l).k = k then .ok (hdW l) l.tail else refuse l
def litP (fits : ByteArray → Bool) (l : List Wd) : Pz Wd := if fits (hdW l).t then ofP 3 l else refuse l
def numP (signed : Bool) (l : List Wd) : Pz Int :=
  if signed ∧ sayW l = kMinus then (ofP 2 l.tail).and fun w l => .ok (-w.n) l else (ofP 2 l).and fun w l => .ok w.n l
def addB (a b : ByteArray) : ByteArray := ⟨(a.data.toList ++ b.data.toList).toArray⟩
/-- Further names behind periods. -/
def dotsF : Nat → ByteArray → List Wd → Pz ByteArray
  | 0, b, l => .no 0 0
  | n + 1, b, l => if sayW l = kDot then (ofP 1 l.tail).and fun w l => dotsF n (addB (addB b kDot) w.t) l else .ok b l
def fullP (start : ByteArray) (at_ : Nat) (l : List Wd) : Pz ByteArray :=
  (ofP 1 l).and fun w l => (dotsF (l.length + 1) (addB start w.t) l).and fun b l => if 128 < b.size then .no at_ 5 else .ok b l
def nameP (l : List Wd) : Pz ByteArray := if sayW l = kDot then fullP kDot (hdW l).p l.tail else fullP kNone (hdW l).p l
/-- Elements up to a brace. -/
def blkF {σ : Type} (step : σ → List Wd → Pz σ) : Nat → σ → List Wd → Pz σ
  | 0, s, l => .no 0 0
  | n + 1, s, l => if sayW l = kShut then .ok s l.tail else (step s l).and fun s l => blkF step n s l
def blkP {σ : Type} (step : σ → List Wd → Pz σ) (s : σ) (l : List Wd) : Pz σ := (expP [kOpen] l).and fun _ l => blkF step (l.length + 1) s l

/-! What is reserved. -/
def spanP (max : Int) (signed : Bool) (l : List Wd) : Pz Sp :=
  (numP signed l).and fun lo l2 =>
    if sayW l2 = kTo then
      if sayW l2.tail = kMax then (if max < lo then .no (hdW l2.tail).p 40 else .ok ⟨lo, max, (hdW l).p⟩ l2.tail.tail)
      else (numP signed l2.tail).and fun hi l3 => if hi < lo then .no (hdW l2.tail).p 40 else .ok ⟨lo, hi, (hdW l).p⟩ l3
    else .ok ⟨lo, lo, (hdW l).p⟩ l2
def rngsF (max : Int) (signed : Bool) : Nat → List Sp → List Wd → Pz (List Sp)
  | 0, a, l => .no 0 0
  | n + 1, a, l => roomP a.length 64 l ((spanP max signed l).and fun x l => if sayW l = kComma then rngsF max signed n (a ++ [x]) l.tail else .ok (a ++ [x]) l)
def namsF : Nat → List Tx → List Wd → Pz (List Tx)
  | 0, a, l => .no 0 0
  | n + 1, a, l => roomP a.length 64 l ((litP (fun s => identL s.data.toList) l).and fun w l => if sayW l = kComma then namsF n (a ++ [⟨w.t, w.p⟩]) l.tail else .ok (a ++ [⟨w.t, w.p⟩]) l)
def resP (max : Int) (signed : Bool) (a : List Sp) (b : List Tx) (l : List Wd) : Pz (List Sp × List Tx) :=
  if (hdW l.tail).k = 3 then (namsF l.length b l.tail).and fun b l => (expP [kSemi] l).and fun _ l => .ok (a, b) l
  else (rngsF max signed l.length a l.tail).and fun a l => (expP [kSemi] l).and fun _ l => .ok (a, b) l

/-! Enums. -/
def valP (l : List Wd) : Pz Vl := (ofP 1 l).and fun w l => (expP [kEq] l).and fun _ l => (numP true l).and fun n l => (expP [kSemi] l).and fun _ l => .ok ⟨w.t, n, w.p⟩ l
def enS (x : En) (l : List Wd) : Pz En :=
  if sayW l = kSemi then .ok x l.tail
  else if sayW l = kRes then (resP 2147483647 true x.rngs x.nams l).and fun r l => .ok { x with rngs := r.1, nams := r.2 } l
  else if sayW l = kOption then refuse l
  else roomP x.vals.length 64 l ((valP l).and fun v l => .ok { x with vals := x.vals ++ [v] } l)
def enP (l : List Wd) : Pz En := (ofP 1 l.tail).and fun w l => blkP enS ⟨w.t, w.p, [], [], []⟩ l

/-! Messages. -/
def namedP (f : Fd) (l : List Wd) : Pz Fd :=
  (ofP 1 l).and fun w l => (expP [kEq] l).and fun _ l => (ofP 2 l).and fun n l =>
    (if sayW l = kLbr then (expP [kJson, kEq] l.tail).and fun _ l => (ofP 3 l).and fun j l => (expP [kRbr] l).and fun _ l => .ok j.t l else .ok f.json l).and fun j l =>
      (expP [kSemi] l).and fun _ l => .ok { f with name := w.t, at_ := w.p, num := n.n, nat_ := n.p, json := j } l
def typedP (card oneof : Int) (l : List Wd) : Pz Fd := (nameP l).and fun s l2 => namedP ⟨kNone, s, kNone, kNone, card, 0, oneof, 0, (hdW l).p, 0⟩ l2
def mapP (l : List Wd) : Pz Fd :=
  (expP [kLt] l).and fun _ l1 => (nameP l1).and fun key l => (expP [kComma] l).and fun _ l => (nameP l).and fun s l => (expP [kGt] l).and fun _ l =>
    namedP ⟨kNone, s, key, kNone, 4, 0, -1, 0, (hdW l1).p, 0⟩ l
def addF (m : Ms) (r : Pz Fd) : Pz Ms := r.and fun f l => .ok { m with flds := m.flds ++ [f] } l
def onS (m : Ms) (l : List Wd) : Pz Ms :=
  if sayW l = kSemi then .ok m l.tail
  else if sayW l = kOption ∨ sayW l = kOpt ∨ sayW l = kRep ∨ sayW l = kMap ∨ sayW l = kGrp then refuse l
  else roomP m.flds.length 64 l (addF m (typedP 2 ((m.onos.length : Int) - 1) l))
def onP (m : Ms) (l : List Wd) : Pz Ms := roomP m.onos.length 16 l ((ofP 1 l.tail).and fun w l => blkP onS { m with onos := m.onos ++ [⟨w.t, w.p⟩] } l)
/-- sub reads a message that lies in this one. -/
def msS (sub : List Wd → Pz Ms) (m : Ms) (l : List Wd) : Pz Ms :=
  if sayW l = kSemi then .ok m l.tail
  else if sayW l = kMsg then roomP m.msgs.length 128 l ((sub l).and fun x l => .ok { m with msgs := m.msgs ++ [x] } l)
  else if sayW l = kEnum then roomP m.enums.length 128 l ((enP l).and fun x l => .ok { m with enums := m.enums ++ [x] } l)
  else if sayW l = kOneof then onP m l
  else if sayW l = kRes then (resP 536870911 false m.rngs m.nams l).and fun r l => .ok { m with rngs := r.1, nams := r.2 } l
  else if sayW l = kOpt then roomP m.flds.length 64 l (addF m (typedP 2 (-1) l.tail))
  else if sayW l = kRep then roomP m.flds.length 64 l (addF m (typedP 3 (-1) l.tail))
  else if sayW l = kMap then roomP m.flds.length 64 l (addF m (mapP l.tail))
  else if sayW l = kOption ∨ sayW l = kExts ∨ sayW l = kExt ∨ sayW l = kGrp then refuse l
  else roomP m.flds.length 64 l (addF m (typedP 1 (-1) l))
/-- deep: may what is too deep be refused here? -/
def msP (deepNo : List Wd → Bool) : Nat → Nat → List Wd → Pz Ms
  | 0, deep, l => .no 0 0
  | n + 1, deep, l => if 8 < deep ∧ deepNo l.tail = true then .no (hdW l.tail).p 41 else (ofP 1 l.tail).and fun w l => blkP (msS (msP deepNo n (deep + 1))) ⟨w.t, w.p, [], [], [], [], [], []⟩ l

/-! Services and files. -/
def rpcP (l : List Wd) : Pz Rp :=
  (ofP 1 l).and fun w l => (expP [kLpar] l).and fun _ l1 => (nameP l1).and fun inn l => (expP [kRpar, kRet, kLpar] l).and fun _ l2 => (nameP l2).and fun out l => (expP [kRpar] l).and fun _ l =>
    (if sayW l = kOpen then expP [kShut] l.tail else expP [kSemi] l).and fun _ l => .ok ⟨w.t, inn, out, w.p, (hdW l1).p, (hdW l2).p⟩ l
def svS (x : Sv) (l : List Wd) : Pz Sv :=
  if sayW l = kSemi then .ok x l.tail
  else if sayW l = kRpc then roomP x.rpcs.length 64 l ((rpcP l.tail).and fun r l => .ok { x with rpcs := x.rpcs ++ [r] } l)
  else refuse l
def svP (l : List Wd) : Pz Sv := (ofP 1 l.tail).and fun w l => blkP svS ⟨w.t, w.p, []⟩ l
def impP (l : List Wd) : Pz Im :=
  (litP (fun s => pathL s.data.toList) (if sayW l.tail = kPub then l.tail.tail else l.tail)).and fun w l2 => (expP [kSemi] l2).and fun _ l2 => .ok ⟨w.t, decide (sayW l.tail = kPub), w.p⟩ l2
def fiS (dn : List Wd → Bool) (x : Tr) (l : List Wd) : Pz Tr :=
  if sayW l = kSemi then .ok x l.tail
  else if sayW l = kPkg then (if x.pkg ≠ kNone then refuse l else (fullP kNone (hdW l.tail).p l.tail).and fun s l => (expP [kSemi] l).and fun _ l => .ok { x with pkg := s } l)
  else if sayW l = kImp then roomP x.imps.length 16 l ((impP l).and fun y l => .ok { x with imps := x.imps ++ [y] } l)
  else if sayW l = kMsg then roomP x.msgs.length 128 l ((msP dn l.length 1 l).and fun y l => .ok { x with msgs := x.msgs ++ [y] } l)
  else if sayW l = kEnum then roomP x.enums.length 128 l ((enP l).and fun y l => .ok { x with enums := x.enums ++ [y] } l)
  else if sayW l = kSvc then roomP x.svcs.length 64 l ((svP l).and fun y l => .ok { x with svcs := x.svcs ++ [y] } l)
  else refuse l
def fisF (dn : List Wd → Bool) : Nat → Tr → List Wd → Pz Tr
  | 0, x, l => .no 0 0
  | n + 1, x, l => if (hdW l).k = 0 then .ok x l else (fiS dn x l).and fun x l => fisF dn n x l
def fileP (dn : List Wd → Bool) (l : List Wd) : Pz Tr :=
  (expP [kSyn, kEq] l).and fun _ l => (litP (fun s => decide (s = kP3)) l).and fun _ l => (expP [kSemi] l).and fun _ l => fisF dn (l.length + 1) ⟨kNone, [], [], [], []⟩ l
end
section
open Go.RowKit Go.Instr
set_option linter.unusedVariables false
set_option linter.unusedSimpArgs false

theorem ba_eq (a b : ByteArray) : (a == b) = decide (a = b) := by
  obtain ⟨a⟩ := a
  obtain ⟨b⟩ := b
  show (a == b) = _
  by_cases h : a = b
  · subst h; simp
  · rw [beq_eq_false_iff_ne.mpr h]
    exact (decide_eq_false (by intro e; injection e with e; exact h e)).symm
def pairS (e : MapEntry) : Value × Value := (e.key, e.val)
def keyS (x : ByteArray × Value) : Value × Value := (.string x.1, x.2)
/-- Block b is a map with these keys and elements, in this order. -/
def MapS (w : World) (b : Nat) (xs : List (ByteArray × Value)) : Prop := ∃ es cl, w.heap[b]? = some (.map es cl) ∧ es.toList.map pairS = xs.map keyS
def lookS : List (ByteArray × Value) → ByteArray → Option Value
  | [], _ => none
  | x :: xs, z => if z = x.1 then some x.2 else lookS xs z

theorem findNow_lookS (z : ByteArray) : ∀ (l : List MapEntry) (xs : List (ByteArray × Value)) (i : Nat), l.map pairS = xs.map keyS →
    (lookS xs z = none → findNow .string (.string z) l i = some none) ∧ (∀ v, lookS xs z = some v → ∃ j, findNow .string (.string z) l i = some (some (j, v)))
  | [], [], i, _ => ⟨fun _ => rfl, fun v h => by cases h⟩
  | e :: l, x :: xs, i, h => by
    simp only [List.map_cons, List.cons.injEq] at h
    obtain ⟨h1, h2⟩ := h
    have hk : e.key = .string x.1 := congrArg Prod.fst h1
    have hv : e.val = x.2 := congrArg Prod.snd h1
    have ih := findNow_lookS z l xs (i + 1) h2
    by_cases q : z = x.1
    · refine ⟨fun hn => ?_, fun v hs => ⟨i, ?_⟩⟩
      · rw [lookS, if_pos q] at hn; cases hn
      · rw [lookS, if_pos q] at hs
        injection hs with hs
        simp [findNow, sameNow, hk, q, hv, hs, ba_eq]
    · have hne : (z == x.1) = false := by rw [ba_eq]; simp [q]
      refine ⟨fun hn => ?_, fun v hs => ?_⟩
      · rw [lookS, if_neg q] at hn
        simp only [findNow, sameNow, hk, if_true, hne]
        exact ih.1 hn
      · rw [lookS, if_neg q] at hs
        obtain ⟨j, hj⟩ := ih.2 v hs
        exact ⟨j, by simp only [findNow, sameNow, hk, if_true, hne]; exact hj⟩

section
variable {P : Program} {w : World} {b : Nat} {xs : List (ByteArray × Value)} {t kt et : TypeId}
/-- The world with another map in block b. -/
def mapPutS (w : World) (b : Nat) (o : Obj) : World := { w with heap := w.heap.setIfInBounds b o }
theorem mapPutS_size (w : World) (b : Nat) (o : Obj) : (mapPutS w b o).heap.size = w.heap.size := by simp [mapPutS]
theorem mapPutS_other {w : World} {b i : Nat} {o : Obj} (h : i ≠ b) : (mapPutS w b o).heap[i]? = w.heap[i]? := by simp [mapPutS, Array.getElem?_setIfInBounds, Ne.symm h]
theorem mapPutS_self {w : World} {b : Nat} {o : Obj} (h : b < w.heap.size) : (mapPutS w b o).heap[b]? = some o := by simp [mapPutS, Array.getElem?_setIfInBounds, h]

theorem run_checkS (hk : P.underlying kt = some .string) (e : Bool) (N : Nat) (hN : 0 < N) (z : ByteArray) (w : World) : (checkKey e N kt (.string z)).run P w = .ok () w := by
  cases N with
  | zero => omega
  | succ n => unfold checkKey; simp [run_underlying hk, Result.andThen]

theorem run_insS (hm : MapS w b xs) (ht : P.underlying t = some (.map kt et)) (hk : P.underlying kt = some .string) (z : ByteArray) (v : Value) (hnew : lookS xs z = none) :
    ∃ w', (Instr.mapUpdate t (.map (some b)) (.string z) v).run P w = .ok () w' ∧ MapS w' b (xs ++ [(z, v)]) ∧ w.grownBy w' (some b) := by
  obtain ⟨es, cl, hb, he⟩ := hm
  have hlt : b < w.heap.size := (Array.getElem?_eq_some_iff.1 hb).1
  have hf := (findNow_lookS z es.toList xs 0 he).1 hnew
  refine ⟨mapPutS w b (.map (es.push ⟨.string z, v, cl⟩) (cl + 1)), ?_, ⟨_, _, mapPutS_self hlt, ?_⟩, ⟨rfl, rfl, rfl, by rw [mapPutS_size]; exact Nat.le_refl _, fun i _ hi => mapPutS_other (fun e => hi (by rw [e]))⟩⟩
  · simp [Instr.mapUpdate, run_underlying ht, getObj, setObj, Sem.run, hb, run_checkS hk, run_underlying hk, findKey, hf, Result.andThen, mapPutS]
  · rw [Array.toList_push, List.map_append, he, List.map_append]; rfl
theorem run_lookS (hm : MapS w b xs) (ht : P.underlying t = some (.map kt et)) (hk : P.underlying kt = some .string) (z : ByteArray) (zero : Value) (hz : (zeroValue et).run P w = .ok zero w) :
    (Instr.lookup t (.map (some b)) (.string z) true).run P w = .ok (.tuple #[(lookS xs z).getD zero, .bool (lookS xs z).isSome]) w := by
  obtain ⟨es, cl, hb, he⟩ := hm
  have hf := findNow_lookS z es.toList xs 0 he
  cases hl : lookS xs z with
  | none =>
    have h1 := hf.1 hl
    simp [Instr.lookup, run_underlying ht, getObj, Sem.run, hb, run_checkS hk, run_underlying hk, findKey, h1, hz, Result.andThen]
  | some v =>
    obtain ⟨j, h1⟩ := hf.2 v hl
    simp [Instr.lookup, run_underlying ht, getObj, Sem.run, hb, run_checkS hk, run_underlying hk, findKey, h1, Result.andThen]

theorem wpList_insS {ops : Array Oper} {rest : List Oper} {o : Oper} {a : Act} {Q : Exit → Act → World → Prop} (hg : o.guard = none) (m x v : Operand) (t : TypeId) (hop : o.op = Op.insert t m x v)
    (kt et : TypeId) (ht : P.underlying t = some (.map kt et)) (hk : P.underlying kt = some .string) (b : Nat) (xs : List (ByteArray × Value)) (hm : a.eval m = .map (some b)) (hmap : MapS w b xs) (z : ByteArray) (val : Value) (hx : a.eval x = .string z) (hv : a.eval v = val) (hnew : lookS xs z = none)
    (hK : ∀ w', MapS w' b (xs ++ [(z, val)]) → w.grownBy w' (some b) → wpList P ops Q rest (a.put o.dst undef) w') : wpList P ops Q (o :: rest) a w := by
  refine wpList_plain hg fun K' hK' => ?_
  obtain ⟨w', hrun, r1, r2⟩ := run_insS (P := P) hmap ht hk z val hnew
  unfold Oper.wp
  simp [execOp, hop, hm, hx, hv, hrun, Result.andThen]
  exact hK' _ _ (hK w' r1 r2)
end
end
section
open Go.RowKit
set_option linter.unusedVariables false
set_option linter.unusedSimpArgs false

theorem MemL.split {w : World} {B : Nat} : ∀ {ds1 ds2 : List Dv} {xs : List Value} {F : List Nat}, MemL w B (ds1 ++ ds2) xs F → ∃ xs1 xs2 F1 F2, xs = xs1 ++ xs2 ∧ F = F1 ++ F2 ∧ MemL w B ds1 xs1 F1 ∧ MemL w B ds2 xs2 F2
  | [], ds2, xs, F, h => ⟨[], xs, [], F, rfl, rfl, .nil, h⟩
  | d :: ds1, ds2, _, _, .cons _ v F _ vs G h ht => by
    obtain ⟨xs1, xs2, F1, F2, rfl, rfl, h1, h2⟩ := MemL.split ht
    exact ⟨v :: xs1, xs2, F ++ F1, F2, rfl, (List.append_assoc _ _ _).symm, .cons d v F ds1 xs1 F1 h h1, h2⟩
theorem owns_two {g : Nat} : ∀ (l : List Rw) (a b : Nat) (x y : Rw), (owns l).Nodup → l[a]? = some x → l[b]? = some y → a ≠ b → x.v.ownBlock = some g → y.v.ownBlock = some g → False := by
  intro l
  induction l with
  | nil => intro a b x y _ hx; simp at hx
  | cons z l ih =>
    intro a b x y hn hx hy hab ex ey
    have hl : (owns l).Nodup := by
      simp only [owns, List.filterMap_cons] at hn
      cases hz : z.v.ownBlock with
      | none => rw [hz] at hn; exact hn
      | some q => rw [hz] at hn; exact (List.nodup_cons.mp hn).2
    have hz : ∀ (u : Rw) (c : Nat), z.v.ownBlock = some g → l[c]? = some u → u.v.ownBlock = some g → False := by
      intro u c e1 hu e3
      simp only [owns, List.filterMap_cons, e1] at hn
      exact (List.nodup_cons.mp hn).1 (List.mem_filterMap.mpr ⟨u, List.mem_of_getElem? hu, e3⟩)
    cases a with
    | zero =>
      cases b with
      | zero => exact hab rfl
      | succ b =>
        simp only [List.getElem?_cons_zero, Option.some.injEq] at hx
        subst hx
        exact hz y b ex (by simpa using hy) ey
    | succ a =>
      cases b with
      | zero =>
        simp only [List.getElem?_cons_zero, Option.some.injEq] at hy
        subst hy
        exact hz x a ey (by simpa using hx) ex
      | succ b => exact ih a b x y hl (by simpa using hx) (by simpa using hy) (by omega) ex ey
/-- The last element of one row is another one. -/
theorem Rows_.put_last {w w' : World} {B : Nat} {rs : List Rw} {C G : List Nat} (h : Rows_ w B rs C) (j : Nat) (r : Rw) (hj : rs[j]? = some r) (n : Nat) (cs ds0 ds : List Dv) (vs : List Value) (hcs : r.cs = cs ++ ds0) (hlc : cs.length = n * r.k)
    (hg : w.grownBy w' r.v.ownBlock) (ho : ∀ xs, w.ownsRow B r.t r.k r.v r.n xs → w'.ownsRow B r.t r.k r.v r.n (xs.take (n * r.k) ++ vs)) (hG : MemL w B ds vs G) (hGf : ∀ g ∈ G, g ∉ owns rs) :
    Rows_ w' B (rs.set j ⟨r.t, r.k, r.n, cs ++ ds, r.v⟩) (C ++ G) := by
  have hrm : r ∈ rs := List.mem_of_getElem? hj
  have keepC : ∀ g ∈ C ++ G, w'.heap[g]? = w.heap[g]? := by
    intro g hm
    have hf : g ∉ owns rs := by
      rcases List.mem_append.mp hm with h1 | h1
      · exact h.far g h1
      · exact hGf g h1
    have hl : g < w.heap.size := by
      rcases List.mem_append.mp hm with h1 | h1
      · exact (h.lt g h1).2
      · exact (hG.lt g h1).2
    exact hg.block g hl fun e => hf (List.mem_filterMap.mpr ⟨r, hrm, e.symm⟩)
  have how : owns (rs.set j ⟨r.t, r.k, r.n, cs ++ ds, r.v⟩) = owns rs := owns_set rs j r _ hj rfl
  refine ⟨fun q hq => ?_, by rw [how]; exact h.two, fun g hm => ?_, fun g hm => ?_⟩
  · obtain ⟨i, hi⟩ := List.getElem?_of_mem hq
    by_cases hij : i = j
    · subst hij
      have hlt : i < rs.length := List.getElem?_eq_some_iff.mp hj |>.1
      rw [List.getElem?_set_self hlt] at hi
      injection hi with hi
      subst hi
      obtain ⟨xs, F, o1, o2, o3⟩ := h.row r hrm
      rw [hcs] at o2
      obtain ⟨xs1, xs2, F1, F2, rfl, rfl, m1, m2⟩ := MemL.split o2
      have hl1 : xs1.length = n * r.k := by rw [m1.len]; exact hlc
      have ho' := ho _ o1
      rw [List.take_left' hl1] at ho'
      refine ⟨xs1 ++ vs, F1 ++ G, ho', ?_, fun g hm => ?_⟩
      · exact MemL.app (hG.stays fun g hm => keepC g (List.mem_append_right _ hm)) (m1.stays fun g hm => keepC g (List.mem_append_left _ (o3 g (List.mem_append_left _ hm))))
      · rcases List.mem_append.mp hm with h1 | h1
        · exact List.mem_append_left _ (o3 g (List.mem_append_left _ h1))
        · exact List.mem_append_right _ h1
    · rw [List.getElem?_set_ne (by omega)] at hi
      obtain ⟨xs, F, o1, o2, o3⟩ := h.row q (List.mem_of_getElem? hi)
      exact ⟨xs, F, ownsRow_stays o1 fun g e => hg.block g (o1.lt g e).2 fun e2 => owns_two rs i j q r h.two hi hj hij e e2.symm, o2.stays fun g hm => keepC g (List.mem_append_left _ (o3 g hm)), fun g hm => List.mem_append_left _ (o3 g hm)⟩
  · rw [how]
    rcases List.mem_append.mp hm with h1 | h1
    · exact h.far g h1
    · exact hGf g h1
  · have hs := hg.size
    rcases List.mem_append.mp hm with h1 | h1
    · exact ⟨(h.lt g h1).1, by have := (h.lt g h1).2; omega⟩
    · exact ⟨(hG.lt g h1).1, by have := (hG.lt g h1).2; omega⟩
theorem grownBy_trans {a b c : World} {r : Option Nat} (h : a.grownBy b r) (k : b.grownBy c r) : a.grownBy c r :=
  ⟨k.os.trans h.os, k.tape.trans h.tape, k.output.trans h.output, Nat.le_trans h.size k.size, fun i hi hne => (k.block i (Nat.lt_of_lt_of_le hi h.size) hne).trans (h.block i hi hne)⟩
/-- Cells of a row are written, one behind the other. -/
def setL : List Value → Nat → List Value → List Value
  | xs, _, [] => xs
  | xs, o, v :: vs => setL (xs.set o v) (o + 1) vs
theorem setL_end : ∀ (vs xs ys : List Value) (o : Nat), xs.length = o → ys.length = vs.length → setL (xs ++ ys) o vs = xs ++ vs
  | [], xs, ys, o, _, h => by rw [List.eq_nil_of_length_eq_zero h]; rfl
  | v :: vs, xs, [], o, _, h => by cases h
  | v :: vs, xs, y :: ys, o, ho, h => by
    rw [setL, List.set_append_right _ _ (by omega), show o - xs.length = 0 by omega, List.set_cons_zero]
    have := setL_end vs (xs ++ [v]) ys (o + 1) (by simp [ho]) (by simpa using h)
    simpa using this
theorem ownsRow_setCells {B : Nat} {e : TypeId} {k n g cap : Nat} : ∀ (vs : List Value) (w : World) (xs : List Value) (o : Nat), w.ownsRow B e k (.slice (some ⟨g, 0, none⟩) n cap) n xs →
    (w.setCells g o vs).ownsRow B e k (.slice (some ⟨g, 0, none⟩) n cap) n (setL xs o vs) ∧ w.grownBy (w.setCells g o vs) (some g)
  | [], w, xs, o, h => ⟨h, ⟨rfl, rfl, rfl, Nat.le_refl _, fun _ _ _ => rfl⟩⟩
  | v :: vs, w, xs, o, h => by
    have h1 := h.stored o v
    have h2 := ownsRow_setCells vs _ _ (o + 1) h1.1
    exact ⟨h2.1, grownBy_trans h1.2 h2.2⟩
/-- A row's last element is stored: what the walk's store leaves. -/
theorem Rows_.store_last {w : World} {B : Nat} {rs : List Rw} {C G : List Nat} (h : Rows_ w B rs C) (j : Nat) (r : Rw) (hj : rs[j]? = some r) (n : Nat) (cs ds0 ds : List Dv) (vs : List Value) (hn : r.n = n + 1) (hcs : r.cs = cs ++ ds0) (hl0 : ds0.length = r.k) (hvs : vs.length = r.k)
    {g cap : Nat} (hv : r.v = .slice (some ⟨g, 0, none⟩) r.n cap) (hG : MemL w B ds vs G) (hGf : ∀ i ∈ G, i ∉ owns rs) :
    w.there g (n * r.k) r.k ∧ Rows_ (w.setCells g (n * r.k) vs) B (rs.set j ⟨r.t, r.k, r.n, cs ++ ds, r.v⟩) (C ++ G) ∧ w.grownBy (w.setCells g (n * r.k) vs) (some g) := by
  have hlc : cs.length = n * r.k := by
    have h1 := MemL.len_k h (List.mem_of_getElem? hj)
    rw [hcs, hn, List.length_append, Nat.add_mul, hl0] at h1
    omega
  obtain ⟨xs, F, o1, o2, o3⟩ := h.row r (List.mem_of_getElem? hj)
  have hob : r.v.ownBlock = some g := by rw [hv]; rfl
  have hg : w.grownBy (w.setCells g (n * r.k) vs) (some g) := by
    rw [hv] at o1
    exact (ownsRow_setCells vs w xs (n * r.k) o1).2
  refine ⟨fun i hi => ?_, h.put_last j r hj n cs ds0 ds vs hcs hlc (by rw [hob]; exact hg) (fun ys hy => ?_) hG hGf, hg⟩
  · have o1' := o1
    rw [hv] at o1'
    refine ⟨?_, o1'.frozenAt _⟩
    have hlt : n * r.k + i < r.n * r.k := by rw [hn, Nat.add_mul]; omega
    rw [o1'.cellAt _ hlt]
    have hxl := o1.1
    rw [List.getElem?_eq_getElem (by omega)]
    rfl
  · have hy' := hy
    rw [hv] at hy'
    have h2 := (ownsRow_setCells vs w ys (n * r.k) hy').1
    have hyl := hy.1
    rw [hn, Nat.add_mul, Nat.one_mul] at hyl
    have h3 : setL ys (n * r.k) vs = ys.take (n * r.k) ++ vs := by
      have := setL_end vs (ys.take (n * r.k)) (ys.drop (n * r.k)) (n * r.k) (by rw [List.length_take]; omega) (by rw [List.length_drop]; omega)
      rw [List.take_append_drop] at this
      exact this
    rw [h3] at h2
    rw [hv]
    exact h2
theorem run_indexAt_last {P : Program} {w : World} {t e : TypeId} {i : TypeInfo} {k g n c : Nat} (ht : P.underlying t = some (.slice e)) (hi : P.info? e = some i) (hk : i.size = k) :
    (Instr.indexAt t (.slice (some ⟨g, 0, none⟩) (n + 1) c) (.int .i64 n)).run P w = .ok (.pointer (some ⟨g, n * k, none⟩)) w := by
  simp [Instr.indexAt, asIntOf, run_underlying ht, sizeOf, typeInfo, hi, hk, Addr.add_mid, show ((n : Int) < (n : Int) + 1) by omega]
theorem Rows_.val_pos {w : World} {B : Nat} {rs : List Rw} {C : List Nat} (h : Rows_ w B rs C) {j : Nat} {r : Rw} (hj : rs[j]? = some r) (hn : 0 < r.n) : ∃ g c, r.v = .slice (some ⟨g, 0, none⟩) r.n c ∧ B ≤ g := by
  obtain ⟨xs, F, o, _⟩ := h.row r (List.mem_of_getElem? hj)
  rcases o.2 with ⟨e, hn0⟩ | ⟨q, cap, cur, e, h1, _⟩
  · omega
  · exact ⟨q, cap, e, h1⟩
theorem wp_index_last {P : Program} {op : Oper} {a : Act} {w : World} {K : Act → World → Prop} {Q : Exit → Act → World → Prop} (t e : TypeId) (i : TypeInfo) (k g n c : Nat) (x ix : Operand) (ho : op.op = .indexAddr t x ix)
    (ht : P.underlying t = some (.slice e)) (hi : P.info? e = some i) (hk : i.size = k) (hx : a.eval x = .slice (some ⟨g, 0, none⟩) (n + 1) c) (hix : a.eval ix = .int .i64 n)
    (h : K (a.put op.dst (.pointer (some ⟨g, n * k, none⟩))) w) : op.wp P a w K Q := by
  unfold Oper.wp execOp
  simp only [ho, hx, hix, Sem.run_bind, Sem.run_pure, Result.andThen_ok, run_indexAt_last (P := P) (w := w) ht hi hk]
  exact h
end
end Go.Proofs.YthmdaejlopjjoaaGreatDoor
