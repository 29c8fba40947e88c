/-
  A map literal whose keys are laid in an order that is drawn. No program.
-/
import Derived.Test.YthmdaejlopjjoaaGreatDoorPaA
import Derived.OrdersHeld
import Derived.Orders
namespace Go.Proofs.YthmdaejlopjjoaaGreatDoor
open Go.RowKit
set_option linter.unusedVariables false
set_option linter.unusedSimpArgs false

/-! A map literal in a statement whose operations come in an order that is drawn: the keys may be laid in any order. -/
section
variable {P : Program} {md : Region.Mode} {ops : Array Oper} {Q : Exit → Act → World → Prop} {S : World → Prop}
theorem getD_set_self {l : Array Bool} {i : Nat} (h : l.getD i true = false) : (l.setIfInBounds i true).getD i false = true := by
  have hi : i < l.size := by
    rcases Nat.lt_or_ge i l.size with h' | h'
    · exact h'
    · simp [Array.getElem?_eq_none h'] at h
  simp [hi]
theorem getD_set_far {l : Array Bool} {i j : Nat} (h : j ≠ i) (d : Bool) : (l.setIfInBounds i true).getD j d = l.getD j d := by
  simp [Array.getElem?_setIfInBounds, Ne.symm h]
/-- What the literal's place in the statement must be: none of what has not come up yet comes up before all keys are laid, and each key may be laid now. -/
def insB (md : Region.Mode) (ops : Array Oper) (L : Array Bool) (idx : List Nat) : Bool :=
  (List.range ops.size).all (fun j => idx.contains j || L.getD j true || (match ops[j]? with
    | none => true
    | some o => o.after.toList.any (fun e => Region.binds md e && !idx.contains e.on && !L.getD e.on false) || idx.all (fun i => o.after.toList.any fun e => Region.binds md e && e.on == i))) &&
  idx.all (fun i => !L.getD i true && (match ops[i]? with
    | none => false
    | some o => o.after.toList.all fun e => !Region.binds md e || (!idx.contains e.on && L.getD e.on false)))
theorem lookS_snoc : ∀ (xs : List (ByteArray × Value)) (k : ByteArray) (v : Value) (z : ByteArray), lookS (xs ++ [(k, v)]) z = match lookS xs z with
    | some u => some u
    | none => if z = k then some v else none
  | [], k, v, z => rfl
  | x :: xs, k, v, z => by
    rw [List.cons_append, lookS, lookS_snoc xs k v z, lookS]
    split <;> rfl
theorem lookS_map_mem (key : Nat → ByteArray) (val : Nat → Value) : ∀ (idx : List Nat), (idx.map key).Nodup → ∀ i ∈ idx, lookS (idx.map fun i => (key i, val i)) (key i) = some (val i)
  | [], _, i, h => by cases h
  | j :: idx, hn, i, h => by
    rw [List.map_cons, List.nodup_cons] at hn
    rw [List.map_cons, lookS]
    rcases List.mem_cons.mp h with rfl | h
    · simp
    · rw [if_neg]
      · exact lookS_map_mem key val idx hn.2 i h
      · intro e
        simp only at e
        exact hn.1 (e ▸ List.mem_map_of_mem h)
theorem wpAnyH_ins {t kt et : TypeId} (ht : P.underlying t = some (.map kt et)) (hkt : P.underlying kt = some .string) {mb : Nat} {ms : Operand} {a : Act} (hm : a.eval ms = .map (some mb))
    (idx : List Nat) (key : Nat → ByteArray) (val : Nat → Value) (hidx : idx.Nodup) (hkeys : (idx.map key).Nodup)
    (hops : ∀ i ∈ idx, ∃ o vo, ops[i]? = some o ∧ o.dst = none ∧ o.guard = none ∧ o.op = .insert t ms (.const (.string (key i))) vo ∧ a.eval vo = val i)
    (hSk : ∀ w w', w.grownBy w' (some mb) → S w → S w') (L : Array Bool) (hL : insB md ops L idx = true) (w0 : World) (fuel : Nat)
    (hcont : ∀ (L' : Array Bool) (w' : World) (xs : List (ByteArray × Value)), L'.size = L.size → (∀ j, L'.getD j false = (L.getD j false || idx.contains j)) → MapS w' mb xs → (∀ z, lookS xs z = lookS (idx.map fun i => (key i, val i)) z) →
      w0.grownBy w' (some mb) → S w' → wpAnyH P md ops Q S fuel L' a w') :
    ∀ (n : Nat) (rem : List Nat), rem.length = n → rem.Nodup → (∀ i ∈ rem, i ∈ idx) → ∀ (L' : Array Bool) (w : World) (xs : List (ByteArray × Value)), L'.size = L.size → (∀ j, L'.getD j false = (L.getD j false || (idx.contains j && !rem.contains j))) →
      MapS w mb xs → ((∀ z, z ∈ rem.map key → lookS xs z = none) ∧ ∀ z, z ∉ rem.map key → lookS xs z = lookS (idx.map fun i => (key i, val i)) z) → w0.grownBy w (some mb) → S w → wpAnyH P md ops Q S (n + fuel) L' a w := by
  unfold insB at hL
  rw [Bool.and_eq_true, List.all_eq_true, List.all_eq_true] at hL
  obtain ⟨hL1, hL2⟩ := hL
  have hLi : ∀ i ∈ idx, L.getD i true = false ∧ ∃ o, ops[i]? = some o ∧ ∀ e ∈ o.after, Region.binds md e = true → e.on ∉ idx ∧ L.getD e.on false = true := by
    intro i hi
    have h := hL2 i hi
    rw [Bool.and_eq_true] at h
    refine ⟨by simpa using h.1, ?_⟩
    have h2 := h.2
    split at h2
    · cases h2
    · rename_i o ho
      refine ⟨o, ho, fun e he hb => ?_⟩
      rw [List.all_eq_true] at h2
      have h3 := h2 e (by simpa using he)
      rw [hb] at h3
      simpa using h3
  intro n
  induction n with
  | zero =>
    intro rem hrl _ _ L' w xs hs hl hmap hlook hg hS
    have hr : rem = [] := List.eq_nil_of_length_eq_zero hrl
    subst hr
    rw [Nat.zero_add]
    exact hcont L' w xs hs (fun j => by rw [hl j]; simp) hmap (fun z => hlook.2 z (by simp)) hg hS
  | succ n ih =>
    intro rem hrl hrn hri L' w xs hs hl hmap hlook hg hS
    have hgetT : ∀ j, L'.getD j true = false → j < L'.size ∧ L'.getD j false = false := by
      intro j h
      rcases Nat.lt_or_ge j L'.size with h' | h'
      · refine ⟨h', ?_⟩
        simp [h'] at h ⊢
        exact h
      · simp [Array.getElem?_eq_none h'] at h
    have hgetF : ∀ j, j < L'.size → L'.getD j false = false → L'.getD j true = false := by
      intro j h' h
      simp [h'] at h ⊢
      exact h
    have hlt : ∀ i ∈ idx, i < L'.size := by
      intro i hi
      have := (hLi i hi).1
      rcases Nat.lt_or_ge i L.size with h' | h'
      · omega
      · simp [Array.getElem?_eq_none h'] at this
    have hLf : ∀ i ∈ idx, L.getD i false = false := by
      intro i hi
      have h1 := (hLi i hi).1
      have h2 := hlt i hi
      rw [hs] at h2
      simp [h2] at h1 ⊢
      exact h1
    have hready : ∀ i ∈ rem, i ∈ Region.ready md ops L' := by
      intro i hi
      have hii := hri i hi
      obtain ⟨o, ho, he⟩ := (hLi i hii).2
      refine mem_ready.2 ⟨hgetF i (hlt i hii) ?_, o, ho, fun e hee hb => ?_⟩
      · rw [hl i, hLf i hii]
        simp [hi]
      · rw [hl e.on, (he e hee hb).2]
        rfl
    have honly : ∀ i ∈ Region.ready md ops L', i ∈ rem := by
      intro i hi
      obtain ⟨hu, o, ho, hdep⟩ := mem_ready.1 hi
      obtain ⟨hlt', hu'⟩ := hgetT i hu
      by_cases hii : i ∈ idx
      · have h1 := hl i
        rw [hu', hLf i hii] at h1
        simp [hii] at h1
        exact h1
      · exfalso
        have hio : i < ops.size := (Array.getElem?_eq_some_iff.mp ho).1
        have h1 := hL1 i (List.mem_range.mpr hio)
        have hcf : idx.contains i = false := by simpa using hii
        have hLt : L.getD i true = false := by
          have h2 := hl i
          rw [hu', hcf] at h2
          rw [hs] at hlt'
          simp [hlt'] at h2 ⊢
          exact h2
        rw [hcf, hLt, ho] at h1
        simp only [Bool.false_or] at h1
        rw [Bool.or_eq_true] at h1
        rcases h1 with h1 | h1
        · rw [List.any_eq_true] at h1
          obtain ⟨e, he, h1⟩ := h1
          have he : e ∈ o.after := by simpa using he
          simp only [Bool.and_eq_true, Bool.not_eq_true'] at h1
          have h2 := hdep e he h1.1.1
          rw [hl e.on, h1.2, h1.1.2] at h2
          cases h2
        · rw [List.all_eq_true] at h1
          obtain ⟨x, hx⟩ : ∃ x, x ∈ rem := by
            cases rem with
            | nil => simp at hrl
            | cons x r => exact ⟨x, List.mem_cons_self ..⟩
          have h2 := h1 x (hri x hx)
          rw [List.any_eq_true] at h2
          obtain ⟨e, he, h2⟩ := h2
          have he : e ∈ o.after := by simpa using he
          rw [Bool.and_eq_true] at h2
          have h3 := hdep e he h2.1
          have h4 : e.on = x := by simpa using h2.2
          rw [h4, hl x, hLf x (hri x hx)] at h3
          simp [hx] at h3
    rw [show n + 1 + fuel = (n + fuel) + 1 by omega]
    refine ⟨fun h0 => ?_, fun i hi => ?_⟩
    · exfalso
      obtain ⟨x, hx⟩ : ∃ x, x ∈ rem := by
        cases rem with
        | nil => simp at hrl
        | cons x r => exact ⟨x, List.mem_cons_self ..⟩
      have := hready x hx
      rw [h0] at this
      cases this
    · have hir := honly i hi
      have hii := hri i hir
      obtain ⟨o, vo, ho, hd, hgd, hop, hv⟩ := hops i hii
      have hnew : lookS xs (key i) = none := hlook.1 _ (List.mem_map_of_mem hir)
      obtain ⟨w', hrun, hm', hg'⟩ := run_insS (P := P) hmap ht hkt (key i) (val i) hnew
      have hw : Region.wanted o (yielded ops a.tmps) = true := by simp [Region.wanted, hgd]
      unfold wpOp
      simp only [ho]
      rw [if_pos hw]
      refine .inl ?_
      unfold Oper.wp
      have hex : (execOp a.eval o).run P w = .ok .skip w' := by
        have hek : a.eval (.const (.string (key i))) = .string (key i) := rfl
        simp [execOp, hop, hm, hv, hek, hrun, Result.andThen]
      rw [hex]
      have hput : a.put o.dst undef = a := by rw [hd]; rfl
      have hgoal : S w' ∧ wpAnyH P md ops Q S (n + fuel) (L'.setIfInBounds i true) a w' := by
        refine ⟨hSk _ _ hg' hS, ih (rem.erase i) (by rw [List.length_erase_of_mem hir, hrl]; rfl) (hrn.erase i) (fun j hj => hri j (List.mem_of_mem_erase hj)) _ w' _ (by simpa using hs) (fun j => ?_) hm' ?_ ?_ (hSk _ _ hg' hS)⟩
        · by_cases hji : j = i
          · subst hji
            rw [getD_set_self (mem_ready.1 hi).1]
            have : (rem.erase j).contains j = false := by
              rw [List.contains_eq_mem]
              exact decide_eq_false (fun h => (hrn.mem_erase_iff.mp h).1 rfl)
            rw [this]
            simp [hii]
          · rw [getD_set_far hji, hl j]
            have : (rem.erase i).contains j = rem.contains j := by
              rw [List.contains_eq_mem, List.contains_eq_mem, decide_eq_decide, hrn.mem_erase_iff]
              exact ⟨fun h => h.2, fun h => ⟨hji, h⟩⟩
            rw [this]
        · have hkn : ∀ j ∈ rem, key j = key i → j = i := by
            intro j hj e
            have hinj : ∀ (l : List Nat), (l.map key).Nodup → ∀ p ∈ l, ∀ q ∈ l, key p = key q → p = q := by
              intro l
              induction l with
              | nil => intro _ p hp; cases hp
              | cons c l ihl =>
                intro hn p hp q hq e
                rw [List.map_cons, List.nodup_cons] at hn
                rcases List.mem_cons.mp hp with h1 | h1
                · rcases List.mem_cons.mp hq with h2 | h2
                  · rw [h1, h2]
                  · exact absurd (by rw [← h1, e]; exact List.mem_map_of_mem h2) hn.1
                · rcases List.mem_cons.mp hq with h2 | h2
                  · exact absurd (by rw [← h2, ← e]; exact List.mem_map_of_mem h1) hn.1
                  · exact ihl hn.2 p h1 q h2 e
            exact hinj idx hkeys j (hri j hj) i hii e
          refine ⟨fun z hz => ?_, fun z hz => ?_⟩
          · obtain ⟨j, hj, e⟩ := List.mem_map.mp hz
            have hj' := hrn.mem_erase_iff.mp hj
            have hzi : z ≠ key i := fun h => hj'.1 (hkn j hj'.2 (e.trans h))
            rw [lookS_snoc, hlook.1 z (List.mem_map.mpr ⟨j, hj'.2, e⟩)]
            simp [hzi]
          · rw [lookS_snoc]
            by_cases hzi : z = key i
            · subst hzi
              rw [hnew, lookS_map_mem key val idx hkeys i hii]
              simp
            · have hzr : z ∉ rem.map key := fun h => by
                obtain ⟨j, hj, e⟩ := List.mem_map.mp h
                exact hz (List.mem_map.mpr ⟨j, hrn.mem_erase_iff.mpr ⟨fun h => hzi (by rw [← e, h]), hj⟩, e⟩)
              rw [hlook.2 z hzr]
              cases lookS (idx.map fun i => (key i, val i)) z with
              | none => simp [hzi]
              | some u => rfl
        · refine ⟨hg'.os.trans hg.os, hg'.tape.trans hg.tape, hg'.output.trans hg.output, Nat.le_trans hg.size hg'.size, fun k hk hne => (hg'.block k (Nat.lt_of_lt_of_le hk hg.size) hne).trans (hg.block k hk hne)⟩
      simp only [Oper.upon]
      first | exact hgoal | (rw [hput]; exact hgoal)
end
theorem eqL {L' L L1 : Array Bool} {idx : List Nat} (hs : L'.size = L.size) (h : ∀ j, L'.getD j false = (L.getD j false || idx.contains j)) (hc : (L.size == L1.size && (List.range L.size).all fun j => (L.getD j false || idx.contains j) == L1.getD j false) = true) : L' = L1 := by
  rw [Bool.and_eq_true, List.all_eq_true] at hc
  have h1 : L.size = L1.size := by simpa using hc.1
  refine Array.ext (hs.trans h1) fun j hj hj1 => ?_
  have h2 := h j
  have h3 := hc.2 j (List.mem_range.mpr (by omega))
  have h4 : (L.getD j false || idx.contains j) = L1.getD j false := by simpa using h3
  rw [h4] at h2
  simpa [hj, hj1] using h2
theorem lookS_none : ∀ (l : List (ByteArray × Value)) (z : ByteArray), z ∉ l.map Prod.fst → lookS l z = none
  | [], _, _ => rfl
  | x :: l, z, h => by
    rw [List.map_cons, List.mem_cons, not_or] at h
    rw [lookS, if_neg h.1]
    exact lookS_none l z h.2
section
variable {P : Program} {md : Region.Mode} {ops : Array Oper} {Q : Exit → Act → World → Prop} {S : World → Prop}
theorem wpAnyH_ins0 {t kt et : TypeId} (ht : P.underlying t = some (.map kt et)) (hkt : P.underlying kt = some .string) {mb : Nat} {ms : Operand} {a : Act} (hm : a.eval ms = .map (some mb))
    (idx : List Nat) (key : Nat → ByteArray) (val : Nat → Value) (hidx : idx.Nodup) (hkeys : (idx.map key).Nodup)
    (hops : ∀ i ∈ idx, ∃ o vo, ops[i]? = some o ∧ o.dst = none ∧ o.guard = none ∧ o.op = .insert t ms (.const (.string (key i))) vo ∧ a.eval vo = val i)
    (hSk : ∀ w w', w.grownBy w' (some mb) → S w → S w') (L L1 : Array Bool) (hL : insB md ops L idx = true) (hL1 : (L.size == L1.size && (List.range L.size).all fun j => (L.getD j false || idx.contains j) == L1.getD j false) = true) (w : World) (fuel n : Nat) (hn : idx.length = n)
    (hmap : MapS w mb []) (hS : S w)
    (hcont : ∀ (w' : World) (xs : List (ByteArray × Value)), MapS w' mb xs → (∀ z, lookS xs z = lookS (idx.map fun i => (key i, val i)) z) → w.grownBy w' (some mb) → S w' → wpAnyH P md ops Q S fuel L1 a w') :
    wpAnyH P md ops Q S (n + fuel) L a w := by
  refine wpAnyH_ins ht hkt hm idx key val hidx hkeys hops hSk L hL w fuel (fun L' w' xs hs hl h1 h2 h3 h4 => ?_) n idx hn hidx (fun _ h => h) L w [] rfl (fun j => by simp) hmap ⟨fun _ _ => rfl, fun z hz => ?_⟩ (World.grownBy.refl w _) hS
  · rw [eqL hs hl hL1]
    exact hcont w' xs h1 h2 h3 h4
  · refine (lookS_none _ z ?_).symm
    rw [List.map_map]
    exact hz
end
section
variable {P : Program} {ops : Array Oper} {Q : Exit → Act → World → Prop}
theorem wpOp_of {i : Nat} {o : Oper} {a : Act} {w : World} {K : Act → World → Prop} (ho : ops[i]? = some o) (hg : o.guard = none) (h : o.wp P a w K Q) : wpOp P ops Q i K a w := by
  have hw : Region.wanted o (yielded ops a.tmps) = true := by simp [Region.wanted, hg]
  unfold wpOp
  simp only [ho]
  rw [if_pos hw]
  exact .inl h
theorem wpOp_makeMap {i : Nat} {o : Oper} {a : Act} {w : World} {K : Act → World → Prop} {t kt et : TypeId} (ht : P.underlying t = some (.map kt et)) (ho : ops[i]? = some o) (hop : o.op = .makeMap t none) (hg : o.guard = none)
    (h : MapS (w.alloc (.map #[] 0)) w.heap.size [] → K (a.put o.dst (.map (some w.heap.size))) (w.alloc (.map #[] 0))) : wpOp P ops Q i K a w := by
  have hw : Region.wanted o (yielded ops a.tmps) = true := by simp [Region.wanted, hg]
  unfold wpOp
  simp only [ho]
  rw [if_pos hw]
  refine .inl ?_
  unfold Oper.wp
  have hex : (execOp a.eval o).run P w = .ok (.value (.map (some w.heap.size))) (w.alloc (.map #[] 0)) := by
    have hmm : (Instr.makeMap t none).run P w = .ok (.map (some w.heap.size)) (w.alloc (.map #[] 0)) := rfl
    simp [execOp, hop, hmm, Result.andThen]
  rw [hex]
  exact h ⟨#[], 0, heap_alloc_new w _, rfl⟩
end
end Go.Proofs.YthmdaejlopjjoaaGreatDoor
