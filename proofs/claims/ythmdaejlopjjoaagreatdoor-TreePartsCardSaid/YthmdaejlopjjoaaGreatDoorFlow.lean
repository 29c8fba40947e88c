/-
  A region that draws its order, walked once: each operation by what the operations that it waits for have left. What is told of an operation may be spent by a later one; what holds at the start is told by tokens, which may be spent, too. No program.
-/
import Derived.Test.YthmdaejlopjjoaaGreatDoorWords
import Derived.Orders
namespace Go.Proofs.YthmdaejlopjjoaaGreatDoor
open Go.RowKit
set_option linter.unusedVariables false
set_option linter.unusedSimpArgs false

section
variable {P : Program} {ops : Array Oper} {Q : Exit → Act → World → Prop}

theorem ready_spec {md : Region.Mode} {listed : Array Bool} {i : Nat} (h : i ∈ Region.ready md ops listed) :
    ∃ o, ops[i]? = some o ∧ listed.getD i true = false ∧ ∀ e ∈ o.after, Region.binds md e = true → listed.getD e.on false = true := by
  unfold Region.ready at h
  obtain ⟨h1, h2⟩ := List.mem_filter.1 h
  simp only [List.mem_range] at h1
  simp only [Bool.and_eq_true, Bool.not_eq_true'] at h2
  obtain ⟨h3, h4⟩ := h2
  refine ⟨ops[i], Array.getElem?_eq_getElem h1, h3, fun e he hb => ?_⟩
  rw [Array.getElem?_eq_getElem h1] at h4
  simp only [Option.map_some, Option.getD_some] at h4
  have := (Array.all_eq_true'.1 h4) e he
  simpa [hb] using this

/-- How many are not listed yet. -/
def lacks (listed : Array Bool) : Nat := listed.toList.countP (· == false)
theorem lacks_set {listed : Array Bool} {i : Nat} (h : listed.getD i true = false) : lacks (listed.setIfInBounds i true) + 1 = lacks listed := by
  obtain ⟨l⟩ := listed
  simp only [lacks, Array.getD_eq_getD_getElem?, List.getElem?_toArray, List.setIfInBounds_toArray] at *
  induction l generalizing i with
  | nil => simp at h
  | cons b l ih =>
    cases i with
    | zero => simp at h; subst h; simp
    | succ i =>
      simp at h
      have := ih (i := i) (by simpa using h)
      simp only [List.set_cons_succ, List.countP_cons]
      omega
theorem ready_nil {md : Region.Mode} {listed : Array Bool} (h : lacks listed = 0) : Region.ready md ops listed = [] := by
  rw [List.eq_nil_iff_forall_not_mem]
  intro i hi
  obtain ⟨o, h1, h2, h3⟩ := ready_spec hi
  have := lacks_set h2
  omega

/-- The law: an invariant over what is listed. -/
theorem wpAny_inv {md : Region.Mode} (Inv : Array Bool → Act → World → Prop)
    (hstep : ∀ listed a w i, Inv listed a w → i ∈ Region.ready md ops listed → wpOp P ops Q i (fun a' w' => Inv (listed.setIfInBounds i true) a' w') a w)
    (hdone : ∀ listed a w, Inv listed a w → Region.ready md ops listed = [] → Q .normal a w) :
    ∀ fuel listed a w, lacks listed ≤ fuel → Inv listed a w → wpAny P md ops Q fuel listed a w := by
  intro fuel
  induction fuel with
  | zero => intro listed a w hf hi; exact ⟨ready_nil (by omega), hdone _ _ _ hi (ready_nil (by omega))⟩
  | succ fuel ih =>
    intro listed a w hf hi
    refine ⟨fun h => hdone _ _ _ hi h, fun i h => ?_⟩
    obtain ⟨o, h1, h2, h3⟩ := ready_spec h
    have := lacks_set h2
    exact wpOp_mono (fun a w hh => ih _ _ _ (by omega) hh) (hstep _ _ _ _ hi h)

/-- Slots, written over. -/
def over (L : List Tmp) (u : Tmp → Value) (ts : Array Value) : Array Value := L.foldl (fun t d => t.setIfInBounds d (u d)) ts

theorem over_size (L : List Tmp) (u : Tmp → Value) : ∀ (ts : Array Value), (over L u ts).size = ts.size := by
  unfold over
  induction L with
  | nil => intro ts; rfl
  | cons d L ih => intro ts; simp only [List.foldl_cons]; rw [ih]; simp
theorem over_get (L : List Tmp) (u : Tmp → Value) : ∀ (ts : Array Value) (t : Tmp), (over L u ts)[t]? = if t ∈ L ∧ t < ts.size then some (u t) else ts[t]? := by
  unfold over
  induction L with
  | nil => intro ts t; simp
  | cons d L ih =>
    intro ts t
    simp only [List.foldl_cons]
    rw [ih]
    by_cases h : t ∈ L
    · by_cases hs : t < ts.size
      · simp [h, hs]
      · simp [h, hs, Array.getElem?_setIfInBounds]
    · by_cases hd : t = d
      · subst hd
        by_cases hs : t < ts.size
        · simp [h, hs, Array.getElem?_setIfInBounds]
        · simp [h, hs, Array.getElem?_setIfInBounds]
      · have hd' : ¬ d = t := fun e => hd e.symm
        simp [h, hd, hd', Array.getElem?_setIfInBounds]
theorem over_self (L : List Tmp) (ts : Array Value) : over L (fun t => ts.getD t undef) ts = ts := by
  apply Array.ext_getElem?
  intro t
  rw [over_get]
  split
  · rename_i h
    rw [Array.getElem?_eq_getElem h.2]
    simp [Array.getD, h.2]
  · rfl
theorem over_put (L : List Tmp) (u : Tmp → Value) (ts : Array Value) (d : Tmp) (v : Value) (hd : d ∈ L) : (over L u ts).setIfInBounds d v = over L (fun t => if t = d then v else u t) ts := by
  apply Array.ext_getElem?
  intro t
  rw [Array.getElem?_setIfInBounds, over_size, over_get, over_get]
  by_cases h : d = t
  · subst h
    by_cases hs : d < ts.size <;> simp [hs, hd]
  · have h' : ¬ t = d := fun e => h e.symm
    simp [h, h']

/-- Which slots a region writes. -/
def outs (ops : Array Oper) : List Tmp := ops.toList.filterMap (·.dst)
def waitsFor (ops : Array Oper) (i j : Nat) : Bool := ((ops[i]?).map fun o => o.after.any fun e => Region.binds .any e && e.on == j).getD false
/-- What waits for what, also by way of others. -/
def reach (ops : Array Oper) : Nat → Nat → Nat → Bool
  | 0, i, j => waitsFor ops i j
  | f + 1, i, j => waitsFor ops i j || (List.range i).any fun k => waitsFor ops i k && reach ops f k j
theorem reach_listed {listed : Array Bool} (hC : ∀ i j, listed.getD i false = true → waitsFor ops i j = true → listed.getD j false = true) :
    ∀ f i j, reach ops f i j = true → (∀ k, waitsFor ops i k = true → listed.getD k false = true) → listed.getD j false = true
  | 0, i, j, h, hw => hw j h
  | f + 1, i, j, h, hw => by
    simp only [reach, Bool.or_eq_true, List.any_eq_true, Bool.and_eq_true] at h
    rcases h with h | ⟨k, _, h1, h2⟩
    · exact hw j h
    · exact reach_listed hC f k j h2 fun l hl => hC k l (hw k h1) hl

def truth : Value → Option Bool
  | .bool b => some b
  | _ => none

theorem wanted_iff {o : Oper} {y : Nat → Option Bool} : Region.wanted o y = true ↔ ∀ g b, o.guard = some (g, b) → y g = some b := by
  unfold Region.wanted
  cases hg : o.guard with
  | none => simp
  | some x => obtain ⟨g, b⟩ := x; simp

/-- t: how many tokens there are; N: how many slots. What has no slot has a number beyond them. -/
def sound4 (ops : Array Oper) (N t f : Nat) (deps later spends : Nat → List Nat) (dsts : Nat → Tmp) : Bool :=
  ((List.range ops.size).all fun i =>
    (deps i).all (fun j => decide (j < ops.size + t) && (decide (ops.size ≤ j) || reach ops f i j)) &&
    (later i).all (fun j => decide (j < ops.size) && waitsFor ops j i) &&
    ((ops[i]?).map fun o => (match o.dst with
      | some d => d == dsts i && decide (d < N)
      | none => decide (N ≤ dsts i)) && (o.guard.map fun g => (deps i).contains g.1 && decide (g.1 < ops.size) && ((ops[g.1]?).bind (·.dst)).isSome).getD true && o.after.all fun e => !Region.binds .any e || decide (e.on < i)).getD false &&
    (spends i).all fun j => (List.range ops.size).all fun k => !(deps k).contains j || k == i || reach ops f i k) &&
  ((List.range (ops.size + t)).all fun i => (List.range (ops.size + t)).all fun j => i == j || dsts i != dsts j) &&
  (List.range t).all fun j => (deps (ops.size + j)).isEmpty

set_option maxHeartbeats 1000000 in
theorem wp_region_flow {id : Nat} {a : Act} {w : World} (hm : P.follows .mixedOrders = true) (N t f : Nat) (deps later spends : Nat → List Nat) (dsts : Nat → Tmp) (hs : sound4 ops N t f deps later spends dsts = true) (hN : a.tmps.size = N)
    (L : List Tmp) (hL : (List.range (ops.size + t)).map dsts = L)
    (Fr : Nat → World → World → Prop) (Vl : Nat → Value → Prop) (Pr : Nat → (Nat → Value) → World → Prop)
    (hcong : ∀ i d d' w, i < ops.size + t → (∀ j, j = i ∨ reach ops f i j = true → d j = d' j) → Pr i d w → Pr i d' w)
    (hst : ∀ i j d w w', i < ops.size → j < ops.size + t → i ≠ j → j ∉ spends i → reach ops f j i = false → Pr j d w → Fr i w w' → Pr j d w')
    (h0 : ∀ j d, j < t → Pr (ops.size + j) d w.drew)
    (hop : ∀ i o, ops[i]? = some o → ∀ (u : Tmp → Value) (w' : World), (∀ j ∈ deps i, Pr j (fun k => u (dsts k)) w') → (∀ j, reach ops f i j = true → Vl j (u (dsts j))) → (∀ j ∈ later i, u (dsts j) = a.tmps.getD (dsts j) undef) →
      (∀ g b, o.guard = some (g, b) → truth (u (dsts g)) = some b) →
      ∀ K : Act → World → Prop, (∀ v w'', Vl i v → Pr i (fun k => if k = i then v else u (dsts k)) w'' → Fr i w' w'' → K (Act.put { tmps := over L u a.tmps, defers := a.defers } o.dst v) w'') →
        o.wp P { tmps := over L u a.tmps, defers := a.defers } w' K Q)
    (hskip : ∀ i o g b, ops[i]? = some o → o.guard = some (g, b) → ∀ (u : Tmp → Value) (w' : World), (∀ j ∈ deps i, Pr j (fun k => u (dsts k)) w') → (∀ j, reach ops f i j = true → Vl j (u (dsts j))) → truth (u (dsts g)) ≠ some b → Vl i undef ∧ Pr i (fun k => if k = i then undef else u (dsts k)) w' ∧ Fr i w' w')
    (hdone : ∀ (u : Tmp → Value) (w' : World), (∀ j, j < ops.size → Vl j (u (dsts j))) → (∀ j, j < ops.size + t → (∀ k, k < ops.size → j ∉ spends k) → Pr j (fun k => u (dsts k)) w') → Q .normal { tmps := over L u a.tmps, defers := a.defers } w') :
    (Code.region id ops true).wp P Q a w := by
  simp only [sound4, Bool.and_eq_true] at hs
  obtain ⟨⟨hs1, hs2⟩, hs3⟩ := hs
  have hinj : ∀ i j, i < ops.size + t → j < ops.size + t → dsts i = dsts j → i = j := by
    intro i j hi hj he
    have h := (List.all_eq_true.1 ((List.all_eq_true.1 hs2) i (List.mem_range.2 hi))) j (List.mem_range.2 hj)
    simpa [he] using h
  have htok : ∀ j, j < t → deps (ops.size + j) = [] := by
    intro j hj
    have h := (List.all_eq_true.1 hs3) j (List.mem_range.2 hj)
    simpa using h
  have hmem : ∀ i, i < ops.size + t → dsts i ∈ L := fun i hi => by rw [← hL]; exact List.mem_map.2 ⟨i, List.mem_range.2 hi, rfl⟩
  have hsound : ∀ i o, ops[i]? = some o → (∀ j ∈ deps i, j < ops.size + t ∧ (ops.size ≤ j ∨ reach ops f i j = true)) ∧ (∀ j ∈ later i, j < ops.size ∧ waitsFor ops j i = true) ∧
      ((o.dst = some (dsts i) ∧ dsts i < N) ∨ (o.dst = none ∧ N ≤ dsts i)) ∧ (∀ g b, o.guard = some (g, b) → g ∈ deps i ∧ g < ops.size ∧ ∃ og, ops[g]? = some og ∧ og.dst.isSome = true) ∧
      (∀ e ∈ o.after, Region.binds .any e = true → e.on < i) ∧ ∀ j ∈ spends i, ∀ k, k < ops.size → j ∈ deps k → k = i ∨ reach ops f i k = true := by
    intro i o ho
    have hi : i < ops.size := (Array.getElem?_eq_some_iff.1 ho).1
    have h := (List.all_eq_true.1 hs1) i (List.mem_range.2 hi)
    simp only [Bool.and_eq_true] at h
    obtain ⟨⟨⟨h1, h2⟩, h3⟩, h4⟩ := h
    rw [ho] at h3
    simp only [Option.map_some, Option.getD_some, Bool.and_eq_true] at h3
    obtain ⟨⟨h3a, h3b⟩, h3c⟩ := h3
    refine ⟨fun j hj => by simpa using (List.all_eq_true.1 h1) j hj, fun j hj => by simpa using (List.all_eq_true.1 h2) j hj, ?_, fun g b hg => ?_, fun e he hb => by simpa [hb] using (Array.all_eq_true'.1 h3c) e he, fun j hj k hk hd => ?_⟩
    · cases hd : o.dst with
      | none => rw [hd] at h3a; exact .inr ⟨rfl, by simpa using h3a⟩
      | some d =>
        rw [hd] at h3a
        simp only [Bool.and_eq_true, beq_iff_eq, decide_eq_true_eq] at h3a
        exact .inl ⟨by rw [h3a.1], h3a.1 ▸ h3a.2⟩
    · rw [hg] at h3b
      simp only [Option.map_some, Option.getD_some, Bool.and_eq_true, decide_eq_true_eq] at h3b
      obtain ⟨⟨h5, h6⟩, h7⟩ := h3b
      refine ⟨by simpa using h5, h6, ops[g], Array.getElem?_eq_getElem h6, ?_⟩
      rw [Array.getElem?_eq_getElem h6] at h7
      simpa using h7
    · have h5 := (List.all_eq_true.1 ((List.all_eq_true.1 h4) j hj)) k (List.mem_range.2 hk)
      simpa [hd] using h5
  refine wp_region_any hm (wpAny_inv (fun listed a' w' => ∃ u, a' = { tmps := over L u a.tmps, defers := a.defers } ∧ listed.size = ops.size ∧
    (∀ j, j < ops.size + t → (ops.size ≤ j ∨ listed.getD j false = true) → (∀ k, k < ops.size → listed.getD k false = true → j ∉ spends k) → Pr j (fun k => u (dsts k)) w') ∧
    (∀ j, j < ops.size → listed.getD j false = false → u (dsts j) = a.tmps.getD (dsts j) undef) ∧
    (∀ i j, listed.getD i false = true → waitsFor ops i j = true → listed.getD j false = true) ∧ (∀ j, listed.getD j false = true → Vl j (u (dsts j)))) ?_ ?_ ops.size (Array.replicate ops.size false) a _ ?_ ?_)
  · rintro listed a' w' i ⟨u, rfl, hsz, hP, hNo, hC, hV⟩ hi
    obtain ⟨o, ho, hl, ha⟩ := ready_spec hi
    obtain ⟨hd1, hd2, hd, hg, _, hsp⟩ := hsound i o ho
    have him : i < ops.size := (Array.getElem?_eq_some_iff.1 ho).1
    have hisz : i < listed.size := by omega
    have hli : listed.getD i false = false := by simpa [Array.getD, hisz] using hl
    have hready : ∀ j, waitsFor ops i j = true → listed.getD j false = true := by
      intro j hj
      unfold waitsFor at hj
      rw [ho] at hj
      simp only [Option.map_some, Option.getD_some] at hj
      obtain ⟨e, he, hb⟩ := Array.any_eq_true'.1 hj
      simp only [Bool.and_eq_true, beq_iff_eq] at hb
      rw [← hb.2]
      exact ha e he hb.1
    have hset : ∀ j, (listed.setIfInBounds i true).getD j false = if i = j then true else listed.getD j false := by
      intro j
      simp only [Array.getD_eq_getD_getElem?, Array.getElem?_setIfInBounds]
      by_cases e : i = j
      · subst e; simp [hisz]
      · simp [e]
    have hdl : ∀ j ∈ deps i, j < ops.size + t ∧ (ops.size ≤ j ∨ listed.getD j false = true) := fun j hj =>
      ⟨(hd1 j hj).1, (hd1 j hj).2.imp (fun h => h) fun hr => reach_listed hC f i j hr hready⟩
    have hdeps : ∀ j ∈ deps i, Pr j (fun k => u (dsts k)) w' := fun j hj => hP j (hdl j hj).1 (hdl j hj).2 fun k hk hlk hjk => by
      obtain ⟨ok, hok⟩ : ∃ ok, ops[k]? = some ok := ⟨_, Array.getElem?_eq_getElem hk⟩
      rcases (hsound k ok hok).2.2.2.2.2 j hjk i him hj with e | e
      · subst e; rw [hlk] at hli; cases hli
      · have := reach_listed hC f k i e fun q hq => hC k q hlk hq
        rw [hli] at this; cases this
    have hyield : ∀ g b, o.guard = some (g, b) → yielded ops (over L u a.tmps) g = truth (u (dsts g)) := by
      intro g b hgb
      obtain ⟨hgw, hgm, og, hog, hgs⟩ := hg g b hgb
      obtain ⟨_, _, hgd, _⟩ := hsound g og hog
      rcases hgd with ⟨e1, e2⟩ | ⟨e1, _⟩
      · unfold yielded
        rw [hog]
        simp only [Option.bind_some, e1, over_get]
        rw [if_pos ⟨hmem g (by omega), by rw [hN]; exact e2⟩]
        cases u (dsts g) <;> rfl
      · rw [e1] at hgs; cases hgs
    have hlm : ∀ k, listed.getD k false = true → k < ops.size := fun k hk => by
      rcases Nat.lt_or_ge k listed.size with h' | h'
      · omega
      · simp [Array.getD, show ¬ k < listed.size by omega] at hk
    have hVi : ∀ j, reach ops f i j = true → Vl j (u (dsts j)) := fun j hj => hV j (reach_listed hC f i j hj hready)
    have hnext : ∀ v w'', Vl i v → Pr i (fun k => if k = i then v else u (dsts k)) w'' → Fr i w' w'' → ∃ u', Act.put { tmps := over L u a.tmps, defers := a.defers } o.dst v = { tmps := over L u' a.tmps, defers := a.defers } ∧ (listed.setIfInBounds i true).size = ops.size ∧
        (∀ j, j < ops.size + t → (ops.size ≤ j ∨ (listed.setIfInBounds i true).getD j false = true) → (∀ k, k < ops.size → (listed.setIfInBounds i true).getD k false = true → j ∉ spends k) → Pr j (fun k => u' (dsts k)) w'') ∧
        (∀ j, j < ops.size → (listed.setIfInBounds i true).getD j false = false → u' (dsts j) = a.tmps.getD (dsts j) undef) ∧
        (∀ i' j, (listed.setIfInBounds i true).getD i' false = true → waitsFor ops i' j = true → (listed.setIfInBounds i true).getD j false = true) ∧
        (∀ j, (listed.setIfInBounds i true).getD j false = true → Vl j (u' (dsts j))) := by
      intro v w'' hvl hv hb
      have hput : Act.put { tmps := over L u a.tmps, defers := a.defers } o.dst v = { tmps := over L (fun q => if q = dsts i then v else u q) a.tmps, defers := a.defers } := by
        rw [← over_put _ _ _ _ _ (hmem i (by omega))]
        rcases hd with ⟨e1, _⟩ | ⟨e1, e2⟩
        · rw [e1]; rfl
        · rw [e1]
          have : (over L u a.tmps).setIfInBounds (dsts i) v = over L u a.tmps := by
            apply Array.ext_getElem?
            intro q
            rw [Array.getElem?_setIfInBounds, over_size]
            by_cases hq : dsts i = q
            · subst hq
              rw [if_pos rfl, if_neg (by omega), Array.getElem?_eq_none (by rw [over_size]; omega)]
            · rw [if_neg hq]
          rw [this]; rfl
      refine ⟨fun q => if q = dsts i then v else u q, hput, by simpa using hsz, ?_, ?_, ?_, ?_⟩
      · intro j hj hlj hun
        by_cases e : i = j
        · subst e
          refine hcong i _ _ w'' hj (fun k hk => ?_) hv
          have hkt : k < ops.size + t := by
            rcases hk with rfl | hk
            · omega
            · have := hlm k (reach_listed hC f i k hk hready); omega
          by_cases hki : k = i
          · subst hki; simp
          · have hne : ¬ dsts k = dsts i := fun e => hki (hinj k i hkt (by omega) e)
            simp [hki, hne]
        · have hlj' : ops.size ≤ j ∨ listed.getD j false = true := by
            rcases hlj with h | h
            · exact .inl h
            · rw [hset, if_neg e] at h; exact .inr h
          have hold := hP j hj hlj' fun k hk hlk => hun k hk (by
            rw [hset]
            by_cases e9 : i = k
            · rw [if_pos e9]
            · rw [if_neg e9]; exact hlk)
          have hnr : reach ops f j i = false := by
            cases hr : reach ops f j i
            · rfl
            · exfalso
              rcases hlj' with h | h
              · have hno : ∀ (g' k : Nat), waitsFor ops j k = true → False := by
                  intro _ k hk
                  unfold waitsFor at hk
                  rw [Array.getElem?_eq_none h] at hk
                  simp at hk
                have : ∀ g', reach ops g' j i = false := by
                  intro g'
                  have hw0 : ∀ k, waitsFor ops j k = false := fun k => by
                    cases hk : waitsFor ops j k
                    · rfl
                    · exact (hno 0 k hk).elim
                  cases g' with
                  | zero => exact hw0 i
                  | succ g' => simp [reach, hw0]
                rw [this f] at hr; cases hr
              · have := reach_listed hC f j i hr fun k hk => hC j k h hk
                rw [hli] at this; cases this
          have hnew := hst i j _ w' w'' him hj e (hun i him (by rw [hset, if_pos rfl])) hnr hold hb
          refine hcong j _ _ w'' hj (fun k hk => ?_) hnew
          have hkl : k = j ∨ listed.getD k false = true := by
            rcases hk with rfl | hk
            · exact .inl rfl
            · rcases hlj' with h | h
              · have hno : ∀ k, waitsFor ops j k = false := fun k => by
                  unfold waitsFor
                  rw [Array.getElem?_eq_none h]
                  rfl
                have : ∀ g', reach ops g' j k = false := by
                  intro g'
                  cases g' with
                  | zero => exact hno k
                  | succ g' => simp [reach, hno]
                rw [this f] at hk; cases hk
              · exact .inr (reach_listed hC f j k hk fun q hq => hC j q h hq)
          have hki : k ≠ i := by
            rcases hkl with rfl | hk
            · exact fun h => e h.symm
            · intro hki; subst hki; rw [hli] at hk; cases hk
          have hkt : k < ops.size + t := by
            rcases hkl with rfl | hk
            · exact hj
            · have := hlm k hk; omega
          have hne : ¬ dsts k = dsts i := fun e => hki (hinj k i hkt (by omega) e)
          simp [hne]
      · intro j hj h1
        rw [hset] at h1
        by_cases e : i = j
        · simp [e] at h1
        · rw [if_neg e] at h1
          have hne : ¬ dsts j = dsts i := fun e2 => e (hinj i j (by omega) (by omega) e2.symm)
          simp only [hne, if_false]
          exact hNo j hj h1
      · intro x y h1 h2
        rw [hset] at h1 ⊢
        by_cases e : i = y
        · rw [if_pos e]
        · rw [if_neg e]
          by_cases e2 : i = x
          · subst e2; exact hready y h2
          · rw [if_neg e2] at h1; exact hC x y h1 h2
      · intro j hlj
        rw [hset] at hlj
        by_cases e : i = j
        · subst e; simpa using hvl
        · rw [if_neg e] at hlj
          have hjm := hlm j hlj
          have hne : ¬ dsts j = dsts i := fun e2 => e (hinj i j (by omega) (by omega) e2.symm)
          simp only [hne, if_false]
          exact hV j hlj
    unfold wpOp
    rw [ho]
    simp only
    split
    · rename_i hw
      refine .inl (hop i o ho u w' hdeps hVi (fun j hj => hNo j (hd2 j hj).1 ?_) (fun g b hgb => ?_) _ hnext)
      · cases hlj : listed.getD j false
        · rfl
        · have := hC j i hlj (hd2 j hj).2
          rw [hli] at this
          cases this
      · rw [← hyield g b hgb]
        exact wanted_iff.1 hw g b hgb
    · rename_i hw
      have hgx : ∃ g b, o.guard = some (g, b) ∧ truth (u (dsts g)) ≠ some b := by
        cases hgd : o.guard with
        | none => exact absurd (wanted_iff.2 fun g b h => by rw [hgd] at h; cases h) hw
        | some x =>
          obtain ⟨g, b⟩ := x
          refine ⟨g, b, rfl, fun e => hw (wanted_iff.2 fun g' b' h => ?_)⟩
          rw [hgd] at h
          cases h
          rw [hyield g b hgd]
          exact e
      obtain ⟨g, b, hgb, hne⟩ := hgx
      obtain ⟨h3, h4, h5⟩ := hskip i o g b ho hgb u w' hdeps hVi hne
      exact hnext undef w' h3 h4 h5
  · rintro listed a' w' ⟨u, rfl, hsz, hP, hNo, hC, hV⟩ hr
    have hall : ∀ n j, j < n → j < ops.size → listed.getD j false = true := by
      intro n
      induction n with
      | zero => intro j h _; omega
      | succ n ih2 =>
        intro j h hj
        by_cases e : j < n
        · exact ih2 j e hj
        · cases hlj : listed.getD j false
          · exfalso
            have hjl : j < listed.size := by omega
            have hmr : j ∈ Region.ready .any ops listed := by
              refine List.mem_filter.2 ⟨List.mem_range.2 hj, ?_⟩
              have h5 : listed.getD j true = false := by simpa [Array.getD, hjl] using hlj
              rw [h5, Array.getElem?_eq_getElem hj]
              simp only [Option.map_some, Option.getD_some, Bool.not_false, Bool.true_and]
              refine Array.all_eq_true'.2 fun e he => ?_
              cases hb : Region.binds .any e
              · simp
              · have hlt := (hsound j _ (Array.getElem?_eq_getElem hj)).2.2.2.2.1 e he hb
                rw [ih2 e.on (by omega) (by omega)]
                simp
            rw [hr] at hmr
            cases hmr
          · rfl
    refine hdone u w' (fun j hj => hV j (hall _ j (Nat.lt_succ_self j) hj)) fun j hj hun => hP j hj ?_ fun k hk _ => hun k hk
    rcases Nat.lt_or_ge j ops.size with h | h
    · exact .inr (hall _ j (Nat.lt_succ_self j) h)
    · exact .inl h
  · simp [lacks, List.countP_replicate]
  · refine ⟨fun q => a.tmps.getD q undef, by rw [over_self], by simp, ?_, fun _ _ _ => rfl, ?_, ?_⟩
    · intro j hj hl _
      rcases hl with h | h
      · obtain ⟨q, rfl⟩ : ∃ q, j = ops.size + q := ⟨j - ops.size, by omega⟩
        exact h0 q _ (by omega)
      · simp [Array.getD] at h
    · intro x y h1 h2
      simp [Array.getD] at h1
    · intro x h1
      simp [Array.getD] at h1
theorem no_guard {ops : Array Oper} (h : ops.all (fun o => o.guard.isNone) = true) {i : Nat} {o : Oper} (ho : ops[i]? = some o) : o.guard = none := by
  have := (Array.all_eq_true'.1 h) o (Array.mem_of_getElem? ho)
  simpa using this
end
end Go.Proofs.YthmdaejlopjjoaaGreatDoor
