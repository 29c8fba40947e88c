/-
  tree: an element of a message.
  tree: the map of a message's elements.
-/
import Derived.Test.YthmdaejlopjjoaaGreatDoorMsB
import Derived.Test.YthmdaejlopjjoaaGreatDoorMsA
namespace Go.Proofs.YthmdaejlopjjoaaGreatDoor
section
open Go.RowKit
set_option linter.unusedVariables false
set_option linter.unusedSimpArgs false

theorem blkF_len {σ : Type} {step : σ → List Wd → Pz σ} (hs : ∀ s l s' l', step s l = .ok s' l' → l'.length ≤ l.length) : ∀ (n : Nat) {s s' : σ} {l l' : List Wd}, blkF step n s l = .ok s' l' → l'.length ≤ l.length := by
  intro n
  induction n with
  | zero => intro s s' l l' h; cases h
  | succ n ih =>
    intro s s' l l' h
    rw [blkF] at h
    split at h
    · injection h with _ h; rw [← h]; exact tail_le l
    · obtain ⟨a, l1, h1, h2⟩ := Pz.and_ok h
      have := hs _ _ _ _ h1; have := ih h2; omega
theorem blkP_len {σ : Type} {step : σ → List Wd → Pz σ} (hs : ∀ s l s' l', step s l = .ok s' l' → l'.length ≤ l.length) {s s' : σ} {l l' : List Wd} (h : blkP step s l = .ok s' l') : l'.length ≤ l.length := by
  unfold blkP at h
  obtain ⟨u, l1, h1, k1⟩ := Pz.and_ok h
  have := expP_len _ h1; have := blkF_len hs _ k1; omega
theorem enS_le {x x' : En} {l l' : List Wd} (h : enS x l = .ok x' l') : l'.length ≤ l.length := by
  unfold enS at h
  have := tail_le l
  split at h
  · injection h with _ h; rw [← h]; exact this
  · split at h
    · obtain ⟨r, l1, h1, k1⟩ := Pz.and_ok h
      injection k1 with _ k2
      subst k2
      have := resP_len h1; omega
    · split at h
      · cases h
      · obtain ⟨v, l1, h1, k1⟩ := Pz.and_ok (roomP_ok h)
        injection k1 with _ k2
        subst k2
        have := valP_len h1; omega
theorem enP_len {x : En} {l l' : List Wd} (h : enP l = .ok x l') : l'.length ≤ l.tail.length := by
  unfold enP at h
  obtain ⟨w, l1, h1, k1⟩ := Pz.and_ok h
  have e := (ofP_len h1).2
  subst e
  have := blkP_len (fun _ _ _ _ h => enS_le h) k1; have := tail_le l.tail; omega
theorem onS_le {x x' : Ms} {l l' : List Wd} (h : onS x l = .ok x' l') : l'.length ≤ l.length := by
  unfold onS at h
  have := tail_le l
  split at h
  · injection h with _ h; rw [← h]; exact this
  · split at h
    · cases h
    · obtain ⟨f, h1⟩ := addF_ok (roomP_ok h)
      have := typedP_len h1; omega
theorem onP_len {x x' : Ms} {l l' : List Wd} (h : onP x l = .ok x' l') : l'.length ≤ l.tail.length := by
  unfold onP at h
  obtain ⟨w, l1, h1, k1⟩ := Pz.and_ok (roomP_ok h)
  have e := (ofP_len h1).2
  subst e
  have := blkP_len (fun _ _ _ _ h => onS_le h) k1; have := tail_le l.tail; omega
theorem msS_len {sub : List Wd → Pz Ms} {x x' : Ms} {l l' : List Wd} (hn : l.length = l.tail.length + 1) (hsub : ∀ y l1, sub l = .ok y l1 → l1.length ≤ l.tail.length) (h : msS sub x l = .ok x' l') : l'.length < l.length := by
  unfold msS at h
  have ht := tail_le l.tail
  split at h
  · injection h with _ h; rw [← h]; omega
  split at h
  · obtain ⟨v, l1, h1, k1⟩ := Pz.and_ok (roomP_ok h)
    injection k1 with _ k2
    subst k2
    have := hsub _ _ h1; omega
  split at h
  · obtain ⟨v, l1, h1, k1⟩ := Pz.and_ok (roomP_ok h)
    injection k1 with _ k2
    subst k2
    have := enP_len h1; omega
  split at h
  · have := onP_len h; omega
  split at h
  · obtain ⟨r, l1, h1, k1⟩ := Pz.and_ok h
    injection k1 with _ k2
    subst k2
    have := resP_len h1; omega
  split at h
  · obtain ⟨f, h1⟩ := addF_ok (roomP_ok h)
    have := typedP_len h1; omega
  split at h
  · obtain ⟨f, h1⟩ := addF_ok (roomP_ok h)
    have := typedP_len h1; omega
  split at h
  · obtain ⟨f, h1⟩ := addF_ok (roomP_ok h)
    have := mapP_len h1; omega
  split at h
  · cases h
  · obtain ⟨f, h1⟩ := addF_ok (roomP_ok h)
    have := typedP_len h1; omega
/-- A message that is being read, beside the map of its elements. -/
def MgI (b g : Nat) (cur : Array Value) (be B deep mb : Nat) (xs : List (ByteArray × Value)) (W : World) (x : Ms) (l : List Wd) : Prop := (∃ V C, Mg W b g cur be B deep x V C l) ∧ MapS W mb xs
def msKey (b be : Nat) : List (ByteArray × Value) := [(kSemi, .func (.func 147) #[.pointer (some ⟨b, 0, none⟩)] #[]), (kMsg, .func (.func 223) #[.pointer (some ⟨be, 0, none⟩)] #[]), (kEnum, .func (.func 224) #[.pointer (some ⟨be, 0, none⟩)] #[]), (kOneof, .func (.func 225) #[.pointer (some ⟨be, 0, none⟩)] #[]), (kRes, .func (.func 226) #[.pointer (some ⟨be, 0, none⟩)] #[]), (kOpt, .func (.func 227) #[.pointer (some ⟨be, 0, none⟩)] #[]), (kRep, .func (.func 228) #[.pointer (some ⟨be, 0, none⟩)] #[]), (kMap, .func (.func 229) #[.pointer (some ⟨be, 0, none⟩)] #[]), (kOption, .func (.func 103) #[.pointer (some ⟨b, 0, none⟩)] #[]), (kExts, .func (.func 103) #[.pointer (some ⟨b, 0, none⟩)] #[]), (kExt, .func (.func 103) #[.pointer (some ⟨b, 0, none⟩)] #[]), (kGrp, .func (.func 103) #[.pointer (some ⟨b, 0, none⟩)] #[])]
section
variable {w : World} {b g : Nat} {cur : Array Value} {l : List Wd}
set_option maxHeartbeats 2000000 in
theorem mgElement_any (hX : Ext) {sub : List Wd → Pz Ms} {be B deep mb : Nat} {xs : List (ByteArray × Value)} (hx : ∀ z, lookS xs z = lookS (msKey b be) z) (hmb : mb ≠ b ∧ mb ≠ be ∧ mb < B) {x : Ms} (h : MgI b g cur be B deep mb xs w x l)
    (hsub : ∀ y l1, sub l = .ok y l1 → l1.length ≤ l.tail.length)
    (hM : (hdW l).k ≠ 0 → ∀ W V C, Mg W b g cur be B deep x V C l → Calls Tryz.prog 223 #[.pointer (some ⟨be, 0, none⟩)] W (PzQ (roomP x.msgs.length 128 l ((sub l).and fun y l => .ok { x with msgs := x.msgs ++ [y] } l)) (Kd b be B W) (MgK W b g cur be B deep))) :
    Calls Tryz.prog 102 #[.pointer (some ⟨b, 0, none⟩), .map (some mb), .func (.func 202) #[.pointer (some ⟨be, 0, none⟩)] #[]] w
    (PzQ (msS sub x l) (Kd b be B w) fun x' l' v w' => v = .tuple #[] ∧ MgI b g cur be B deep mb xs w' x' l' ∧ Kd b be B w w' ∧ l'.length < l.length) := by
  obtain ⟨⟨V, C, hes⟩, hm⟩ := h
  rcases V with ⟨vf, vo, vm, ve, vr, vn⟩
  have hgd := hes.ps.gd
  have hn := hgd.len
  have hmk : ∀ W', Kd b be B w W' → MapS W' mb xs := fun W' hk => hm.kn hk (by rintro (e | e | e) <;> omega)
  -- one of the readers that the map has
  have known : ∀ (F : Nat) (hF : F = 103 ∨ F = 147 ∨ F = 203 ∨ F = 205 ∨ F = 223 ∨ F = 224 ∨ F = 225 ∨ F = 226 ∨ F = 227 ∨ F = 228 ∨ F = 229 ∨ F = 148 ∨ F = 149 ∨ F = 150 ∨ F = 151 ∨ F = 152) (r : Pz Ms) (e : msS sub x l = r)
      (hlk : lookS xs (sayW l) = some (.func (.func F) #[.pointer (some ⟨be, 0, none⟩)] #[]))
      (hc : ∀ W, Kn w W → Calls Tryz.prog F #[.pointer (some ⟨be, 0, none⟩)] W (PzQ r (Kd b be B W) (MgK W b g cur be B deep))),
      Calls Tryz.prog 102 #[.pointer (some ⟨b, 0, none⟩), .map (some mb), .func (.func 202) #[.pointer (some ⟨be, 0, none⟩)] #[]] w
        (PzQ (msS sub x l) (Kd b be B w) fun x' l' v w' => v = .tuple #[] ∧ MgI b g cur be B deep mb xs w' x' l' ∧ Kd b be B w w' ∧ l'.length < l.length) := by
    intro F hF r e hlk hc
    rw [e]
    cases r with
    | no p c =>
      refine (element_known (T := fun w' => False) (N := fun p' c' w' => p' = p ∧ c' = c ∧ Kd b be B w w') hes.ps hm F _ _ hlk hF fun W hk => ?_).mono ?_
      · refine (hc W hk).mono ?_
        rintro e w' ⟨rfl, hk'⟩
        exact .inr ⟨p, c, rfl, rfl, rfl, (Kn.kd hk).trans hk'⟩
      · rintro e w' (⟨_, h⟩ | ⟨p', c', rfl, rfl, rfl, h⟩)
        · exact h.elim
        · exact ⟨rfl, h⟩
    | ok x' l' =>
      refine (element_known (T := fun w' => MgI b g cur be B deep mb xs w' x' l' ∧ Kd b be B w w') (N := fun p' c' w' => False) hes.ps hm F _ _ hlk hF fun W hk => ?_).mono ?_
      · refine (hc W hk).mono ?_
        rintro e w' ⟨v, rfl, rfl, hE, hk'⟩
        exact .inl ⟨rfl, ⟨hE, hmk _ ((Kn.kd hk).trans hk')⟩, (Kn.kd hk).trans hk'⟩
      · rintro e2 w' (⟨rfl, h3, h4⟩ | ⟨p', c', _, h⟩)
        · exact ⟨_, rfl, rfl, h3, h4, msS_len hn hsub e⟩
        · exact h.elim
  by_cases h1 : sayW l = kSemi
  · have e : msS sub x l = .ok x l.tail := by unfold msS; rw [if_pos h1]
    rw [e]
    have hlk : lookS xs (sayW l) = some (.func (.func 147) #[.pointer (some ⟨b, 0, none⟩)] #[]) := by rw [hx, h1]; rfl
    refine (element_known (T := fun w' => MgI b g cur be B deep mb xs w' x l.tail ∧ Kd b be B w w') (N := fun _ _ _ => False) hes.ps hm 147 _ _ hlk (by decide) fun W hk => ?_).mono ?_
    · refine (empty_any (hes.ps.kn hk) h1).mono ?_
      rintro e w' ⟨rfl, hp, hk'⟩
      have hkb : Kb b w w' := (Kn.kb hk b).trans hk'
      exact .inl ⟨rfl, ⟨⟨_, C, hes.next hp hkb⟩, hmk _ (Kp.kd hkb)⟩, Kp.kd hkb⟩
    · rintro e w' (⟨rfl, h2, h3⟩ | ⟨p, c, _, h⟩)
      · exact ⟨_, rfl, rfl, h2, h3, by omega⟩
      · exact h.elim
  by_cases h2 : sayW l = kMsg
  · refine known 223 (by decide) _ (by unfold msS; rw [if_neg h1, if_pos h2]) (by rw [hx, h2]; rfl) fun W hk => ?_
    exact hM (hgd.k_s h2 (by decide)) W _ _ (hes.kn hk)
  by_cases h3 : sayW l = kEnum
  · refine known 224 (by decide) _ (by unfold msS; rw [if_neg h1, if_neg h2, if_pos h3]) (by rw [hx, h3]; rfl) fun W hk => ?_
    exact mEnum_any hX (hes.kn hk) (hgd.k_s h3 (by decide))
  by_cases h4 : sayW l = kOneof
  · refine known 225 (by decide) _ (by unfold msS; rw [if_neg h1, if_neg h2, if_neg h3, if_pos h4]) (by rw [hx, h4]; rfl) fun W hk => ?_
    exact oneof_any (hes.kn hk) (hgd.k_s h4 (by decide))
  by_cases h5 : sayW l = kRes
  · refine known 226 (by decide) _ (by unfold msS; rw [if_neg h1, if_neg h2, if_neg h3, if_neg h4, if_pos h5]) (by rw [hx, h5]; rfl) fun W hk => ?_
    exact msReserved_any hX (hes.kn hk) (hgd.k_s h5 (by decide))
  by_cases h6 : sayW l = kOpt
  · refine known 227 (by decide) _ (by unfold msS; rw [if_neg h1, if_neg h2, if_neg h3, if_neg h4, if_neg h5, if_pos h6]) (by rw [hx, h6]; rfl) fun W hk => ?_
    exact optional_any (hes.kn hk) (hgd.k_s h6 (by decide))
  by_cases h7 : sayW l = kRep
  · refine known 228 (by decide) _ (by unfold msS; rw [if_neg h1, if_neg h2, if_neg h3, if_neg h4, if_neg h5, if_neg h6, if_pos h7]) (by rw [hx, h7]; rfl) fun W hk => ?_
    exact repeated_any (hes.kn hk) (hgd.k_s h7 (by decide))
  by_cases h8 : sayW l = kMap
  · refine known 229 (by decide) _ (by unfold msS; rw [if_neg h1, if_neg h2, if_neg h3, if_neg h4, if_neg h5, if_neg h6, if_neg h7, if_pos h8]) (by rw [hx, h8]; rfl) fun W hk => ?_
    exact mapped_any (hes.kn hk) (hgd.k_s h8 (by decide))
  by_cases h9 : sayW l = kOption ∨ sayW l = kExts ∨ sayW l = kExt ∨ sayW l = kGrp
  · have e : msS sub x l = refuse l := by unfold msS; rw [if_neg h1, if_neg h2, if_neg h3, if_neg h4, if_neg h5, if_neg h6, if_neg h7, if_neg h8, if_pos h9]
    rw [e]
    have hlk : lookS xs (sayW l) = some (.func (.func 103) #[.pointer (some ⟨b, 0, none⟩)] #[]) := by
      rw [hx]
      rcases h9 with h | h | h | h <;> (rw [h]; rfl)
    refine (element_known (T := fun w' => False) (N := fun p' c' w' => p' = (hdW l).p ∧ c' = 40 ∧ Kd b be B w w') hes.ps hm 103 _ _ hlk (by decide) fun W hk => ?_).mono ?_
    · refine (refuse_any (hes.ps.kn hk)).mono ?_
      rintro e w' ⟨rfl, hk'⟩
      exact .inr ⟨_, _, rfl, rfl, rfl, Kn.kd (hk.trans hk')⟩
    · rintro e w' (⟨_, h⟩ | ⟨p', c', rfl, rfl, rfl, h⟩)
      · exact h.elim
      · exact ⟨rfl, h⟩
  · have e : msS sub x l = roomP x.flds.length 64 l (addF x (typedP 1 (-1) l)) := by unfold msS; rw [if_neg h1, if_neg h2, if_neg h3, if_neg h4, if_neg h5, if_neg h6, if_neg h7, if_neg h8, if_neg h9]
    simp only [not_or] at h9
    have hlk : lookS xs (sayW l) = none := by rw [hx]; simp [msKey, lookS, h1, h2, h3, h4, h5, h6, h7, h8, h9.1, h9.2.1, h9.2.2.1, h9.2.2.2]
    cases hr : roomP x.flds.length 64 l (addF x (typedP 1 (-1) l)) with
    | no p c =>
      rw [e, hr]
      refine (element_other (T := fun w' => False) (N := fun p' c' w' => p' = p ∧ c' = c ∧ Kd b be B w w') hes.ps hm 202 _ hlk (by decide) fun W hk => ?_).mono ?_
      · have := plain_any (hes.kn hk)
        rw [hr] at this
        refine this.mono ?_
        rintro e w' ⟨rfl, hk'⟩
        exact .inr ⟨p, c, rfl, rfl, rfl, (Kn.kd hk).trans hk'⟩
      · rintro e w' (⟨_, h⟩ | ⟨p', c', rfl, rfl, rfl, h⟩)
        · exact h.elim
        · exact ⟨rfl, h⟩
    | ok x' l' =>
      have e2 := e.trans hr
      rw [e2]
      refine (element_other (T := fun w' => MgI b g cur be B deep mb xs w' x' l' ∧ Kd b be B w w') (N := fun p' c' w' => False) hes.ps hm 202 _ hlk (by decide) fun W hk => ?_).mono ?_
      · have := plain_any (hes.kn hk)
        rw [hr] at this
        refine this.mono ?_
        rintro e w' ⟨v, rfl, rfl, hE, hk'⟩
        exact .inl ⟨rfl, ⟨hE, hmk _ ((Kn.kd hk).trans hk')⟩, (Kn.kd hk).trans hk'⟩
      · rintro e3 w' (⟨rfl, h3, h4⟩ | ⟨p', c', _, h⟩)
        · exact ⟨_, rfl, rfl, h3, h4, msS_len hn hsub e2⟩
        · exact h.elim
end
end
section
open Go.RowKit
set_option linter.unusedVariables false
set_option linter.unusedSimpArgs false

section
variable {w : World}
set_option maxRecDepth 100000 in
set_option maxHeartbeats 4000000 in
theorem mElements_any {b be : Nat} (hc : w.cell? ⟨be, 0, none⟩ = some (.pointer (some ⟨b, 0, none⟩))) : Calls Tryz.prog 201 #[.pointer (some ⟨be, 0, none⟩)] w fun e w' =>
    e = .returned (.map (some w.heap.size)) ∧ ∃ xs, MapS w' w.heap.size xs ∧ (∀ z, lookS xs z = lookS (msKey b be) z) ∧ Kn w w' ∧ w.heap.size < w'.heap.size := by
  have hbe : be < w.heap.size := World.block_lt_of_cell? w ⟨be, 0, none⟩ hc
  generalize hwz : w = wz at *
  go_enter Tryz.func201, Tryz.ntmps201
  go_wp2_with fail
  have hS0 : (fun W : World => W.cell? ⟨be, 0, none⟩ = some (.pointer (some ⟨b, 0, none⟩))) { wz with drawn := wz.drawn + 1 } := hc
  have hS1 : (fun W : World => W.cell? ⟨be, 0, none⟩ = some (.pointer (some ⟨b, 0, none⟩))) (World.alloc { wz with drawn := wz.drawn + 1 } (.map #[] 0)) := (World.cell?_of_block (a := ⟨be, 0, none⟩) (Below.heap_alloc { wz with drawn := wz.drawn + 1 } _ be hbe)).trans hc
  have hSk : ∀ W W' : World, W.grownBy W' (some ({ wz with drawn := wz.drawn + 1 } : World).heap.size) → (fun W : World => W.cell? ⟨be, 0, none⟩ = some (.pointer (some ⟨b, 0, none⟩))) W → (fun W : World => W.cell? ⟨be, 0, none⟩ = some (.pointer (some ⟨b, 0, none⟩))) W' :=
    fun W W' hg hw => World.grownBy.cell hg hw (by intro e; injection e with e; have : be = wz.heap.size := e; omega)
  refine wp_region_held (S := fun W => W.cell? ⟨be, 0, none⟩ = some (.pointer (some ⟨b, 0, none⟩))) (by kernel_rfl) ?_
  refine wpAnyH_take (i := 1) (oi := { dst := some 4, op := Op.move (Operand.tmp 0), type := 234, pos := "message.go:30", after := #[], guard := none }) (v := .pointer (some ⟨be, 0, none⟩)) rfl (by kernel_rfl) (by kernel_rfl) (by kernel_rfl) (fun _ _ _ h => h) (.inl ⟨rfl, fun _ _ => rfl⟩) hS0 ?_
  simp only [Act.put, List.setIfInBounds_toArray, List.set_cons_zero, List.set_cons_succ]
  refine wpAnyH_take (i := 2) (oi := { dst := some 5, op := Op.nilCheck (Operand.tmp 4), type := 0, pos := "message.go:30", after := #[{ on := 1, ground := Ground.data }], guard := none }) (v := .pointer (some ⟨be, 0, none⟩)) rfl (by kernel_rfl) (by kernel_rfl) (by kernel_rfl) (fun _ _ _ h => h) (.inl ⟨rfl, fun _ _ => rfl⟩) hS0 ?_
  simp only [Act.put, List.setIfInBounds_toArray, List.set_cons_zero, List.set_cons_succ]
  refine wpAnyH_take (i := 3) (oi := { dst := some 6, op := Op.fieldAddr 236 (Operand.tmp 5) 0, type := 0, pos := "message.go:30", after := #[{ on := 2, ground := Ground.data }], guard := none }) (v := .pointer (some ⟨be, 0, none⟩)) rfl (by kernel_rfl) (by kernel_rfl) (by kernel_rfl) (fun _ _ _ h => h) (.inl ⟨rfl, fun _ _ => by go_simp⟩) hS0 ?_
  simp only [Act.put, List.setIfInBounds_toArray, List.set_cons_zero, List.set_cons_succ]
  refine wpAnyH_take (i := 4) (oi := { dst := some 7, op := Op.load 104 (Operand.tmp 6), type := 104, pos := "message.go:30", after := #[{ on := 3, ground := Ground.data }], guard := none }) (v := .pointer (some ⟨b, 0, none⟩)) rfl (by kernel_rfl) (by kernel_rfl) (by kernel_rfl) (fun _ _ _ h => h) (.inl ⟨rfl, fun W hW => by have hW2 : W.cell? ⟨be, 0, none⟩ = some (.pointer (some ⟨b, 0, none⟩)) := hW; simp [execOp, go_sem, Act.eval, hW2]⟩) hS0 ?_
  simp only [Act.put, List.setIfInBounds_toArray, List.set_cons_zero, List.set_cons_succ]
  refine wpAnyH_take (i := 5) (oi := { dst := some 8, op := Op.makeFunc (Fn.func 147) #[Operand.tmp 7] #[], type := 1, pos := "message.go:30", after := #[{ on := 4, ground := Ground.data }], guard := none }) (v := .func (.func 147) #[.pointer (some ⟨b, 0, none⟩)] #[]) rfl (by kernel_rfl) (by kernel_rfl) (by kernel_rfl) (fun _ _ _ h => h) (.inl ⟨rfl, fun _ _ => by go_simp⟩) hS0 ?_
  simp only [Act.put, List.setIfInBounds_toArray, List.set_cons_zero, List.set_cons_succ]
  refine wpAnyH_take (i := 7) (oi := { dst := some 9, op := Op.move (Operand.tmp 0), type := 234, pos := "message.go:30", after := #[], guard := none }) (v := .pointer (some ⟨be, 0, none⟩)) rfl (by kernel_rfl) (by kernel_rfl) (by kernel_rfl) (fun _ _ _ h => h) (.inl ⟨rfl, fun _ _ => rfl⟩) hS0 ?_
  simp only [Act.put, List.setIfInBounds_toArray, List.set_cons_zero, List.set_cons_succ]
  refine wpAnyH_take (i := 8) (oi := { dst := some 10, op := Op.makeFunc (Fn.func 223) #[Operand.tmp 9] #[], type := 1, pos := "message.go:30", after := #[{ on := 7, ground := Ground.data }], guard := none }) (v := .func (.func 223) #[.pointer (some ⟨be, 0, none⟩)] #[]) rfl (by kernel_rfl) (by kernel_rfl) (by kernel_rfl) (fun _ _ _ h => h) (.inl ⟨rfl, fun _ _ => by go_simp⟩) hS0 ?_
  simp only [Act.put, List.setIfInBounds_toArray, List.set_cons_zero, List.set_cons_succ]
  refine wpAnyH_take (i := 10) (oi := { dst := some 11, op := Op.move (Operand.tmp 0), type := 234, pos := "message.go:30", after := #[], guard := none }) (v := .pointer (some ⟨be, 0, none⟩)) rfl (by kernel_rfl) (by kernel_rfl) (by kernel_rfl) (fun _ _ _ h => h) (.inl ⟨rfl, fun _ _ => rfl⟩) hS0 ?_
  simp only [Act.put, List.setIfInBounds_toArray, List.set_cons_zero, List.set_cons_succ]
  refine wpAnyH_take (i := 11) (oi := { dst := some 12, op := Op.makeFunc (Fn.func 224) #[Operand.tmp 11] #[], type := 1, pos := "message.go:30", after := #[{ on := 10, ground := Ground.data }], guard := none }) (v := .func (.func 224) #[.pointer (some ⟨be, 0, none⟩)] #[]) rfl (by kernel_rfl) (by kernel_rfl) (by kernel_rfl) (fun _ _ _ h => h) (.inl ⟨rfl, fun _ _ => by go_simp⟩) hS0 ?_
  simp only [Act.put, List.setIfInBounds_toArray, List.set_cons_zero, List.set_cons_succ]
  refine wpAnyH_take (i := 13) (oi := { dst := some 13, op := Op.move (Operand.tmp 0), type := 234, pos := "message.go:30", after := #[], guard := none }) (v := .pointer (some ⟨be, 0, none⟩)) rfl (by kernel_rfl) (by kernel_rfl) (by kernel_rfl) (fun _ _ _ h => h) (.inl ⟨rfl, fun _ _ => rfl⟩) hS0 ?_
  simp only [Act.put, List.setIfInBounds_toArray, List.set_cons_zero, List.set_cons_succ]
  refine wpAnyH_take (i := 14) (oi := { dst := some 14, op := Op.makeFunc (Fn.func 225) #[Operand.tmp 13] #[], type := 1, pos := "message.go:30", after := #[{ on := 13, ground := Ground.data }], guard := none }) (v := .func (.func 225) #[.pointer (some ⟨be, 0, none⟩)] #[]) rfl (by kernel_rfl) (by kernel_rfl) (by kernel_rfl) (fun _ _ _ h => h) (.inl ⟨rfl, fun _ _ => by go_simp⟩) hS0 ?_
  simp only [Act.put, List.setIfInBounds_toArray, List.set_cons_zero, List.set_cons_succ]
  refine wpAnyH_take (i := 16) (oi := { dst := some 15, op := Op.move (Operand.tmp 0), type := 234, pos := "message.go:30", after := #[], guard := none }) (v := .pointer (some ⟨be, 0, none⟩)) rfl (by kernel_rfl) (by kernel_rfl) (by kernel_rfl) (fun _ _ _ h => h) (.inl ⟨rfl, fun _ _ => rfl⟩) hS0 ?_
  simp only [Act.put, List.setIfInBounds_toArray, List.set_cons_zero, List.set_cons_succ]
  refine wpAnyH_take (i := 17) (oi := { dst := some 16, op := Op.makeFunc (Fn.func 226) #[Operand.tmp 15] #[], type := 1, pos := "message.go:30", after := #[{ on := 16, ground := Ground.data }], guard := none }) (v := .func (.func 226) #[.pointer (some ⟨be, 0, none⟩)] #[]) rfl (by kernel_rfl) (by kernel_rfl) (by kernel_rfl) (fun _ _ _ h => h) (.inl ⟨rfl, fun _ _ => by go_simp⟩) hS0 ?_
  simp only [Act.put, List.setIfInBounds_toArray, List.set_cons_zero, List.set_cons_succ]
  refine wpAnyH_take (i := 19) (oi := { dst := some 17, op := Op.move (Operand.tmp 0), type := 234, pos := "message.go:30", after := #[], guard := none }) (v := .pointer (some ⟨be, 0, none⟩)) rfl (by kernel_rfl) (by kernel_rfl) (by kernel_rfl) (fun _ _ _ h => h) (.inl ⟨rfl, fun _ _ => rfl⟩) hS0 ?_
  simp only [Act.put, List.setIfInBounds_toArray, List.set_cons_zero, List.set_cons_succ]
  refine wpAnyH_take (i := 20) (oi := { dst := some 18, op := Op.makeFunc (Fn.func 227) #[Operand.tmp 17] #[], type := 1, pos := "message.go:30", after := #[{ on := 19, ground := Ground.data }], guard := none }) (v := .func (.func 227) #[.pointer (some ⟨be, 0, none⟩)] #[]) rfl (by kernel_rfl) (by kernel_rfl) (by kernel_rfl) (fun _ _ _ h => h) (.inl ⟨rfl, fun _ _ => by go_simp⟩) hS0 ?_
  simp only [Act.put, List.setIfInBounds_toArray, List.set_cons_zero, List.set_cons_succ]
  refine wpAnyH_take (i := 22) (oi := { dst := some 19, op := Op.move (Operand.tmp 0), type := 234, pos := "message.go:30", after := #[], guard := none }) (v := .pointer (some ⟨be, 0, none⟩)) rfl (by kernel_rfl) (by kernel_rfl) (by kernel_rfl) (fun _ _ _ h => h) (.inl ⟨rfl, fun _ _ => rfl⟩) hS0 ?_
  simp only [Act.put, List.setIfInBounds_toArray, List.set_cons_zero, List.set_cons_succ]
  refine wpAnyH_take (i := 23) (oi := { dst := some 20, op := Op.makeFunc (Fn.func 228) #[Operand.tmp 19] #[], type := 1, pos := "message.go:30", after := #[{ on := 22, ground := Ground.data }], guard := none }) (v := .func (.func 228) #[.pointer (some ⟨be, 0, none⟩)] #[]) rfl (by kernel_rfl) (by kernel_rfl) (by kernel_rfl) (fun _ _ _ h => h) (.inl ⟨rfl, fun _ _ => by go_simp⟩) hS0 ?_
  simp only [Act.put, List.setIfInBounds_toArray, List.set_cons_zero, List.set_cons_succ]
  refine wpAnyH_take (i := 25) (oi := { dst := some 21, op := Op.move (Operand.tmp 0), type := 234, pos := "message.go:30", after := #[], guard := none }) (v := .pointer (some ⟨be, 0, none⟩)) rfl (by kernel_rfl) (by kernel_rfl) (by kernel_rfl) (fun _ _ _ h => h) (.inl ⟨rfl, fun _ _ => rfl⟩) hS0 ?_
  simp only [Act.put, List.setIfInBounds_toArray, List.set_cons_zero, List.set_cons_succ]
  refine wpAnyH_take (i := 26) (oi := { dst := some 22, op := Op.makeFunc (Fn.func 229) #[Operand.tmp 21] #[], type := 1, pos := "message.go:30", after := #[{ on := 25, ground := Ground.data }], guard := none }) (v := .func (.func 229) #[.pointer (some ⟨be, 0, none⟩)] #[]) rfl (by kernel_rfl) (by kernel_rfl) (by kernel_rfl) (fun _ _ _ h => h) (.inl ⟨rfl, fun _ _ => by go_simp⟩) hS0 ?_
  simp only [Act.put, List.setIfInBounds_toArray, List.set_cons_zero, List.set_cons_succ]
  refine wpAnyH_take (i := 28) (oi := { dst := some 23, op := Op.move (Operand.tmp 0), type := 234, pos := "message.go:30", after := #[], guard := none }) (v := .pointer (some ⟨be, 0, none⟩)) rfl (by kernel_rfl) (by kernel_rfl) (by kernel_rfl) (fun _ _ _ h => h) (.inl ⟨rfl, fun _ _ => rfl⟩) hS0 ?_
  simp only [Act.put, List.setIfInBounds_toArray, List.set_cons_zero, List.set_cons_succ]
  refine wpAnyH_take (i := 29) (oi := { dst := some 24, op := Op.nilCheck (Operand.tmp 23), type := 0, pos := "message.go:30", after := #[{ on := 28, ground := Ground.data }], guard := none }) (v := .pointer (some ⟨be, 0, none⟩)) rfl (by kernel_rfl) (by kernel_rfl) (by kernel_rfl) (fun _ _ _ h => h) (.inl ⟨rfl, fun _ _ => rfl⟩) hS0 ?_
  simp only [Act.put, List.setIfInBounds_toArray, List.set_cons_zero, List.set_cons_succ]
  refine wpAnyH_take (i := 30) (oi := { dst := some 25, op := Op.fieldAddr 236 (Operand.tmp 24) 0, type := 0, pos := "message.go:30", after := #[{ on := 29, ground := Ground.data }], guard := none }) (v := .pointer (some ⟨be, 0, none⟩)) rfl (by kernel_rfl) (by kernel_rfl) (by kernel_rfl) (fun _ _ _ h => h) (.inl ⟨rfl, fun _ _ => by go_simp⟩) hS0 ?_
  simp only [Act.put, List.setIfInBounds_toArray, List.set_cons_zero, List.set_cons_succ]
  refine wpAnyH_take (i := 31) (oi := { dst := some 26, op := Op.load 104 (Operand.tmp 25), type := 104, pos := "message.go:30", after := #[{ on := 30, ground := Ground.data }], guard := none }) (v := .pointer (some ⟨b, 0, none⟩)) rfl (by kernel_rfl) (by kernel_rfl) (by kernel_rfl) (fun _ _ _ h => h) (.inl ⟨rfl, fun W hW => by have hW2 : W.cell? ⟨be, 0, none⟩ = some (.pointer (some ⟨b, 0, none⟩)) := hW; simp [execOp, go_sem, Act.eval, hW2]⟩) hS0 ?_
  simp only [Act.put, List.setIfInBounds_toArray, List.set_cons_zero, List.set_cons_succ]
  refine wpAnyH_take (i := 32) (oi := { dst := some 27, op := Op.makeFunc (Fn.func 103) #[Operand.tmp 26] #[], type := 1, pos := "message.go:30", after := #[{ on := 31, ground := Ground.data }], guard := none }) (v := .func (.func 103) #[.pointer (some ⟨b, 0, none⟩)] #[]) rfl (by kernel_rfl) (by kernel_rfl) (by kernel_rfl) (fun _ _ _ h => h) (.inl ⟨rfl, fun _ _ => by go_simp⟩) hS0 ?_
  simp only [Act.put, List.setIfInBounds_toArray, List.set_cons_zero, List.set_cons_succ]
  refine wpAnyH_take (i := 34) (oi := { dst := some 28, op := Op.move (Operand.tmp 0), type := 234, pos := "message.go:30", after := #[], guard := none }) (v := .pointer (some ⟨be, 0, none⟩)) rfl (by kernel_rfl) (by kernel_rfl) (by kernel_rfl) (fun _ _ _ h => h) (.inl ⟨rfl, fun _ _ => rfl⟩) hS0 ?_
  simp only [Act.put, List.setIfInBounds_toArray, List.set_cons_zero, List.set_cons_succ]
  refine wpAnyH_take (i := 35) (oi := { dst := some 29, op := Op.nilCheck (Operand.tmp 28), type := 0, pos := "message.go:30", after := #[{ on := 34, ground := Ground.data }], guard := none }) (v := .pointer (some ⟨be, 0, none⟩)) rfl (by kernel_rfl) (by kernel_rfl) (by kernel_rfl) (fun _ _ _ h => h) (.inl ⟨rfl, fun _ _ => rfl⟩) hS0 ?_
  simp only [Act.put, List.setIfInBounds_toArray, List.set_cons_zero, List.set_cons_succ]
  refine wpAnyH_take (i := 36) (oi := { dst := some 30, op := Op.fieldAddr 236 (Operand.tmp 29) 0, type := 0, pos := "message.go:30", after := #[{ on := 35, ground := Ground.data }], guard := none }) (v := .pointer (some ⟨be, 0, none⟩)) rfl (by kernel_rfl) (by kernel_rfl) (by kernel_rfl) (fun _ _ _ h => h) (.inl ⟨rfl, fun _ _ => by go_simp⟩) hS0 ?_
  simp only [Act.put, List.setIfInBounds_toArray, List.set_cons_zero, List.set_cons_succ]
  refine wpAnyH_take (i := 37) (oi := { dst := some 31, op := Op.load 104 (Operand.tmp 30), type := 104, pos := "message.go:30", after := #[{ on := 36, ground := Ground.data }], guard := none }) (v := .pointer (some ⟨b, 0, none⟩)) rfl (by kernel_rfl) (by kernel_rfl) (by kernel_rfl) (fun _ _ _ h => h) (.inl ⟨rfl, fun W hW => by have hW2 : W.cell? ⟨be, 0, none⟩ = some (.pointer (some ⟨b, 0, none⟩)) := hW; simp [execOp, go_sem, Act.eval, hW2]⟩) hS0 ?_
  simp only [Act.put, List.setIfInBounds_toArray, List.set_cons_zero, List.set_cons_succ]
  refine wpAnyH_take (i := 38) (oi := { dst := some 32, op := Op.makeFunc (Fn.func 103) #[Operand.tmp 31] #[], type := 1, pos := "message.go:30", after := #[{ on := 37, ground := Ground.data }], guard := none }) (v := .func (.func 103) #[.pointer (some ⟨b, 0, none⟩)] #[]) rfl (by kernel_rfl) (by kernel_rfl) (by kernel_rfl) (fun _ _ _ h => h) (.inl ⟨rfl, fun _ _ => by go_simp⟩) hS0 ?_
  simp only [Act.put, List.setIfInBounds_toArray, List.set_cons_zero, List.set_cons_succ]
  refine wpAnyH_take (i := 40) (oi := { dst := some 33, op := Op.move (Operand.tmp 0), type := 234, pos := "message.go:30", after := #[], guard := none }) (v := .pointer (some ⟨be, 0, none⟩)) rfl (by kernel_rfl) (by kernel_rfl) (by kernel_rfl) (fun _ _ _ h => h) (.inl ⟨rfl, fun _ _ => rfl⟩) hS0 ?_
  simp only [Act.put, List.setIfInBounds_toArray, List.set_cons_zero, List.set_cons_succ]
  refine wpAnyH_take (i := 41) (oi := { dst := some 34, op := Op.nilCheck (Operand.tmp 33), type := 0, pos := "message.go:30", after := #[{ on := 40, ground := Ground.data }], guard := none }) (v := .pointer (some ⟨be, 0, none⟩)) rfl (by kernel_rfl) (by kernel_rfl) (by kernel_rfl) (fun _ _ _ h => h) (.inl ⟨rfl, fun _ _ => rfl⟩) hS0 ?_
  simp only [Act.put, List.setIfInBounds_toArray, List.set_cons_zero, List.set_cons_succ]
  refine wpAnyH_take (i := 42) (oi := { dst := some 35, op := Op.fieldAddr 236 (Operand.tmp 34) 0, type := 0, pos := "message.go:30", after := #[{ on := 41, ground := Ground.data }], guard := none }) (v := .pointer (some ⟨be, 0, none⟩)) rfl (by kernel_rfl) (by kernel_rfl) (by kernel_rfl) (fun _ _ _ h => h) (.inl ⟨rfl, fun _ _ => by go_simp⟩) hS0 ?_
  simp only [Act.put, List.setIfInBounds_toArray, List.set_cons_zero, List.set_cons_succ]
  refine wpAnyH_take (i := 43) (oi := { dst := some 36, op := Op.load 104 (Operand.tmp 35), type := 104, pos := "message.go:30", after := #[{ on := 42, ground := Ground.data }], guard := none }) (v := .pointer (some ⟨b, 0, none⟩)) rfl (by kernel_rfl) (by kernel_rfl) (by kernel_rfl) (fun _ _ _ h => h) (.inl ⟨rfl, fun W hW => by have hW2 : W.cell? ⟨be, 0, none⟩ = some (.pointer (some ⟨b, 0, none⟩)) := hW; simp [execOp, go_sem, Act.eval, hW2]⟩) hS0 ?_
  simp only [Act.put, List.setIfInBounds_toArray, List.set_cons_zero, List.set_cons_succ]
  refine wpAnyH_take (i := 44) (oi := { dst := some 37, op := Op.makeFunc (Fn.func 103) #[Operand.tmp 36] #[], type := 1, pos := "message.go:30", after := #[{ on := 43, ground := Ground.data }], guard := none }) (v := .func (.func 103) #[.pointer (some ⟨b, 0, none⟩)] #[]) rfl (by kernel_rfl) (by kernel_rfl) (by kernel_rfl) (fun _ _ _ h => h) (.inl ⟨rfl, fun _ _ => by go_simp⟩) hS0 ?_
  simp only [Act.put, List.setIfInBounds_toArray, List.set_cons_zero, List.set_cons_succ]
  refine wpAnyH_take (i := 46) (oi := { dst := some 38, op := Op.move (Operand.tmp 0), type := 234, pos := "message.go:30", after := #[], guard := none }) (v := .pointer (some ⟨be, 0, none⟩)) rfl (by kernel_rfl) (by kernel_rfl) (by kernel_rfl) (fun _ _ _ h => h) (.inl ⟨rfl, fun _ _ => rfl⟩) hS0 ?_
  simp only [Act.put, List.setIfInBounds_toArray, List.set_cons_zero, List.set_cons_succ]
  refine wpAnyH_take (i := 47) (oi := { dst := some 39, op := Op.nilCheck (Operand.tmp 38), type := 0, pos := "message.go:30", after := #[{ on := 46, ground := Ground.data }], guard := none }) (v := .pointer (some ⟨be, 0, none⟩)) rfl (by kernel_rfl) (by kernel_rfl) (by kernel_rfl) (fun _ _ _ h => h) (.inl ⟨rfl, fun _ _ => rfl⟩) hS0 ?_
  simp only [Act.put, List.setIfInBounds_toArray, List.set_cons_zero, List.set_cons_succ]
  refine wpAnyH_take (i := 48) (oi := { dst := some 40, op := Op.fieldAddr 236 (Operand.tmp 39) 0, type := 0, pos := "message.go:30", after := #[{ on := 47, ground := Ground.data }], guard := none }) (v := .pointer (some ⟨be, 0, none⟩)) rfl (by kernel_rfl) (by kernel_rfl) (by kernel_rfl) (fun _ _ _ h => h) (.inl ⟨rfl, fun _ _ => by go_simp⟩) hS0 ?_
  simp only [Act.put, List.setIfInBounds_toArray, List.set_cons_zero, List.set_cons_succ]
  refine wpAnyH_take (i := 49) (oi := { dst := some 41, op := Op.load 104 (Operand.tmp 40), type := 104, pos := "message.go:30", after := #[{ on := 48, ground := Ground.data }], guard := none }) (v := .pointer (some ⟨b, 0, none⟩)) rfl (by kernel_rfl) (by kernel_rfl) (by kernel_rfl) (fun _ _ _ h => h) (.inl ⟨rfl, fun W hW => by have hW2 : W.cell? ⟨be, 0, none⟩ = some (.pointer (some ⟨b, 0, none⟩)) := hW; simp [execOp, go_sem, Act.eval, hW2]⟩) hS0 ?_
  simp only [Act.put, List.setIfInBounds_toArray, List.set_cons_zero, List.set_cons_succ]
  refine wpAnyH_take (i := 50) (oi := { dst := some 42, op := Op.makeFunc (Fn.func 103) #[Operand.tmp 41] #[], type := 1, pos := "message.go:30", after := #[{ on := 49, ground := Ground.data }], guard := none }) (v := .func (.func 103) #[.pointer (some ⟨b, 0, none⟩)] #[]) rfl (by kernel_rfl) (by kernel_rfl) (by kernel_rfl) (fun _ _ _ h => h) (.inl ⟨rfl, fun _ _ => by go_simp⟩) hS0 ?_
  simp only [Act.put, List.setIfInBounds_toArray, List.set_cons_zero, List.set_cons_succ]
  refine wpAnyH_all (rs := [0]) (by kernel_rfl) (by simp) ?_
  intro i hi
  obtain rfl : i = 0 := by simpa using hi
  refine wpOp_makeMap Tryz.underlying158 (o := { dst := some 3, op := Op.makeMap 158 none, type := 158, pos := "message.go:30", after := #[], guard := none }) rfl rfl rfl ?_
  intro hmap
  simp only [Act.put, List.setIfInBounds_toArray, List.set_cons_zero, List.set_cons_succ]
  refine ⟨hS1, ?_⟩
  refine wpAnyH_ins0 Tryz.underlying158 Tryz.underlying9 (ms := .tmp 3) (mb := ({ wz with drawn := wz.drawn + 1 } : World).heap.size) ?hm [6, 9, 12, 15, 18, 21, 24, 27, 33, 39, 45, 51] (fun i => if i = 6 then kSemi else if i = 9 then kMsg else if i = 12 then kEnum else if i = 15 then kOneof else if i = 18 then kRes else if i = 21 then kOpt else if i = 24 then kRep else if i = 27 then kMap else if i = 33 then kOption else if i = 39 then kExts else if i = 45 then kExt else kGrp) (fun i => if i = 6 then .func (.func 147) #[.pointer (some ⟨b, 0, none⟩)] #[] else if i = 9 then .func (.func 223) #[.pointer (some ⟨be, 0, none⟩)] #[] else if i = 12 then .func (.func 224) #[.pointer (some ⟨be, 0, none⟩)] #[] else if i = 15 then .func (.func 225) #[.pointer (some ⟨be, 0, none⟩)] #[] else if i = 18 then .func (.func 226) #[.pointer (some ⟨be, 0, none⟩)] #[] else if i = 21 then .func (.func 227) #[.pointer (some ⟨be, 0, none⟩)] #[] else if i = 24 then .func (.func 228) #[.pointer (some ⟨be, 0, none⟩)] #[] else if i = 27 then .func (.func 229) #[.pointer (some ⟨be, 0, none⟩)] #[] else if i = 33 then .func (.func 103) #[.pointer (some ⟨b, 0, none⟩)] #[] else if i = 39 then .func (.func 103) #[.pointer (some ⟨b, 0, none⟩)] #[] else if i = 45 then .func (.func 103) #[.pointer (some ⟨b, 0, none⟩)] #[] else .func (.func 103) #[.pointer (some ⟨b, 0, none⟩)] #[]) (by decide) (by decide) ?hops hSk _ #[true, true, true, true, true, true, true, true, true, true, true, true, true, true, true, true, true, true, true, true, true, true, true, true, true, true, true, true, true, true, true, true, true, true, true, true, true, true, true, true, true, true, true, true, true, true, true, true, true, true, true, true, false, false] (by kernel_rfl) (by kernel_rfl) _ 2 12 rfl hmap hS1 ?hc
  case hm => rfl
  case hops =>
    intro i hi
    simp only [List.mem_cons, List.mem_nil_iff, or_false] at hi
    rcases hi with rfl | rfl | rfl | rfl | rfl | rfl | rfl | rfl | rfl | rfl | rfl | rfl <;> exact ⟨_, _, rfl, rfl, rfl, rfl, rfl⟩
  intro w5 xs hm5 hlook hg5 hS5
  refine wpAnyH_take (i := 52) (oi := { dst := some 43, op := Op.move (Operand.tmp 3), type := 158, pos := "message.go:30", after := #[{ on := 0, ground := Ground.data }, { on := 1, ground := Ground.data }, { on := 2, ground := Ground.data }, { on := 3, ground := Ground.data }, { on := 4, ground := Ground.data }, { on := 5, ground := Ground.data }, { on := 6, ground := Ground.data }, { on := 7, ground := Ground.data }, { on := 8, ground := Ground.data }, { on := 9, ground := Ground.data }, { on := 10, ground := Ground.data }, { on := 11, ground := Ground.data }, { on := 12, ground := Ground.data }, { on := 13, ground := Ground.data }, { on := 14, ground := Ground.data }, { on := 15, ground := Ground.data }, { on := 16, ground := Ground.data }, { on := 17, ground := Ground.data }, { on := 18, ground := Ground.data }, { on := 19, ground := Ground.data }, { on := 20, ground := Ground.data }, { on := 21, ground := Ground.data }, { on := 22, ground := Ground.data }, { on := 23, ground := Ground.data }, { on := 24, ground := Ground.data }, { on := 25, ground := Ground.data }, { on := 26, ground := Ground.data }, { on := 27, ground := Ground.data }, { on := 28, ground := Ground.data }, { on := 29, ground := Ground.data }, { on := 30, ground := Ground.data }, { on := 31, ground := Ground.data }, { on := 32, ground := Ground.data }, { on := 33, ground := Ground.data }, { on := 34, ground := Ground.data }, { on := 35, ground := Ground.data }, { on := 36, ground := Ground.data }, { on := 37, ground := Ground.data }, { on := 38, ground := Ground.data }, { on := 39, ground := Ground.data }, { on := 40, ground := Ground.data }, { on := 41, ground := Ground.data }, { on := 42, ground := Ground.data }, { on := 43, ground := Ground.data }, { on := 44, ground := Ground.data }, { on := 45, ground := Ground.data }, { on := 46, ground := Ground.data }, { on := 47, ground := Ground.data }, { on := 48, ground := Ground.data }, { on := 49, ground := Ground.data }, { on := 50, ground := Ground.data }, { on := 51, ground := Ground.data }], guard := none }) (v := .map (some wz.heap.size)) rfl (by kernel_rfl) (by kernel_rfl) (by kernel_rfl) (fun _ _ _ h => h) (.inl ⟨rfl, fun _ _ => rfl⟩) hS5 ?_
  simp only [Act.put, List.setIfInBounds_toArray, List.set_cons_zero, List.set_cons_succ]
  refine wpAnyH_take (i := 53) (oi := { dst := some 2, op := Op.assign (Operand.tmp 43), type := 158, pos := "message.go:30", after := #[{ on := 52, ground := Ground.data }, { on := 0, ground := Ground.phase }, { on := 1, ground := Ground.phase }, { on := 2, ground := Ground.phase }, { on := 3, ground := Ground.phase }, { on := 4, ground := Ground.phase }, { on := 5, ground := Ground.phase }, { on := 6, ground := Ground.phase }, { on := 7, ground := Ground.phase }, { on := 8, ground := Ground.phase }, { on := 9, ground := Ground.phase }, { on := 10, ground := Ground.phase }, { on := 11, ground := Ground.phase }, { on := 12, ground := Ground.phase }, { on := 13, ground := Ground.phase }, { on := 14, ground := Ground.phase }, { on := 15, ground := Ground.phase }, { on := 16, ground := Ground.phase }, { on := 17, ground := Ground.phase }, { on := 18, ground := Ground.phase }, { on := 19, ground := Ground.phase }, { on := 20, ground := Ground.phase }, { on := 21, ground := Ground.phase }, { on := 22, ground := Ground.phase }, { on := 23, ground := Ground.phase }, { on := 24, ground := Ground.phase }, { on := 25, ground := Ground.phase }, { on := 26, ground := Ground.phase }, { on := 27, ground := Ground.phase }, { on := 28, ground := Ground.phase }, { on := 29, ground := Ground.phase }, { on := 30, ground := Ground.phase }, { on := 31, ground := Ground.phase }, { on := 32, ground := Ground.phase }, { on := 33, ground := Ground.phase }, { on := 34, ground := Ground.phase }, { on := 35, ground := Ground.phase }, { on := 36, ground := Ground.phase }, { on := 37, ground := Ground.phase }, { on := 38, ground := Ground.phase }, { on := 39, ground := Ground.phase }, { on := 40, ground := Ground.phase }, { on := 41, ground := Ground.phase }, { on := 42, ground := Ground.phase }, { on := 43, ground := Ground.phase }, { on := 44, ground := Ground.phase }, { on := 45, ground := Ground.phase }, { on := 46, ground := Ground.phase }, { on := 47, ground := Ground.phase }, { on := 48, ground := Ground.phase }, { on := 49, ground := Ground.phase }, { on := 50, ground := Ground.phase }, { on := 51, ground := Ground.phase }, { on := 52, ground := Ground.phase }], guard := none }) (v := .map (some wz.heap.size)) rfl (by kernel_rfl) (by kernel_rfl) (by kernel_rfl) (fun _ _ _ h => h) (.inl ⟨rfl, fun _ _ => rfl⟩) hS5 ?_
  simp only [Act.put, List.setIfInBounds_toArray, List.set_cons_zero, List.set_cons_succ]
  have hk5 : Kn wz w5 := ((Kp.refl (fun _ => False) wz).drew.alloc (.map #[] 0)).grown hg5 (fun k e hk => by injection e with e; have : k = wz.heap.size := e.symm; omega)
  have hsz5 : wz.heap.size < w5.heap.size := by have := hg5.size; simp at this; exact this
  clear hS5 hg5 hSk hS0 hS1
  refine wpAnyH_done (by kernel_rfl) ?_ _
  go_wp2_with fail
  exact bodyPost_ret (v := .map (some wz.heap.size)) (by simp [results, Tryz.results201, go_sem]) rfl ⟨rfl, xs, hm5, hlook, hk5, hsz5⟩
end
end
end Go.Proofs.YthmdaejlopjjoaaGreatDoor
