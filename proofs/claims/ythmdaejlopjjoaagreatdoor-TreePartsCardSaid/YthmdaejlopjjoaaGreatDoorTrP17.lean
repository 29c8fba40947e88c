/-
  tree: an element of an enum.
-/
import Derived.Test.YthmdaejlopjjoaaGreatDoorTrP15
import Derived.Test.YthmdaejlopjjoaaGreatDoorTrP14
import Derived.Test.YthmdaejlopjjoaaGreatDoorTrP13
import Derived.Test.YthmdaejlopjjoaaGreatDoorTrP12
import Derived.Test.YthmdaejlopjjoaaGreatDoorPaB
namespace Go.Proofs.YthmdaejlopjjoaaGreatDoor
open Go.RowKit
set_option linter.unusedVariables false
set_option linter.unusedSimpArgs false

/-- An enum that is being read, beside the map of its elements. -/
def EnI (b g : Nat) (cur : Array Value) (be B mb : Nat) (xs : List (ByteArray × Value)) (W : World) (x : En) (l : List Wd) : Prop := (∃ v1 v2 v3 C, Es W b g cur be B x v1 v2 v3 C l) ∧ MapS W mb xs
def enKey (b be : Nat) : List (ByteArray × Value) := [(kSemi, .func (.func 147) #[.pointer (some ⟨b, 0, none⟩)] #[]), (kRes, .func (.func 203) #[.pointer (some ⟨be, 0, none⟩)] #[]), (kOption, .func (.func 103) #[.pointer (some ⟨b, 0, none⟩)] #[])]
section
variable {w : World} {b g : Nat} {cur : Array Value} {l : List Wd}
theorem enElement_any (hX : Ext) {be B mb : Nat} {xs : List (ByteArray × Value)} (hx : ∀ z, lookS xs z = lookS (enKey b be) z) (hmb : mb ≠ b ∧ mb ≠ be ∧ mb < B) {x : En} (h : EnI b g cur be B mb xs w x l) :
    Calls Tryz.prog 102 #[.pointer (some ⟨b, 0, none⟩), .map (some mb), .func (.func 204) #[.pointer (some ⟨be, 0, none⟩)] #[]] w
    (PzQ (enS x l) (Kd b be B w) fun x' l' v w' => v = .tuple #[] ∧ EnI b g cur be B mb xs w' x' l' ∧ Kd b be B w w' ∧ l'.length < l.length) := by
  obtain ⟨⟨v1, v2, v3, C, hes⟩, hm⟩ := h
  have hgd := hes.ps.gd
  have hmk : ∀ W', Kd b be B w W' → MapS W' mb xs := fun W' hk => hm.kn hk (by rintro (e | e | e) <;> omega)
  by_cases h1 : sayW l = kSemi
  · have e : enS x l = .ok x l.tail := by unfold enS; rw [if_pos h1]
    rw [e]
    have hlk : lookS xs (sayW l) = some (.func (.func 147) #[.pointer (some ⟨b, 0, none⟩)] #[]) := by rw [hx, h1]; rfl
    refine (element_known (T := fun w' => EnI b g cur be B mb xs w' x l.tail ∧ Kd b be B w w') (N := fun _ _ _ => False) hes.ps hm 147 _ _ hlk (by decide) fun W hk => ?_).mono ?_
    · refine (empty_any (hes.ps.kn hk) h1).mono ?_
      rintro e w' ⟨rfl, hp, hk'⟩
      have hkb : Kb b w w' := (Kn.kb hk b).trans hk'
      exact .inl ⟨rfl, ⟨⟨v1, v2, v3, C, hes.next hp hkb⟩, hmk _ (Kp.kd hkb)⟩, Kp.kd hkb⟩
    · rintro e w' (⟨rfl, h2, h3⟩ | ⟨p, c, _, h⟩)
      · exact ⟨_, rfl, rfl, h2, h3, by have := hgd.len; omega⟩
      · exact h.elim
  by_cases h2 : sayW l = kRes
  · have e : enS x l = (resP 2147483647 true x.rngs x.nams l).and fun r l => .ok { x with rngs := r.1, nams := r.2 } l := by unfold enS; rw [if_neg h1, if_pos h2]
    rw [e]
    have hlk : lookS xs (sayW l) = some (.func (.func 203) #[.pointer (some ⟨be, 0, none⟩)] #[]) := by rw [hx, h2]; rfl
    cases hr : (resP 2147483647 true x.rngs x.nams l).and fun r l => .ok { x with rngs := r.1, nams := r.2 } l with
    | no p c =>
      refine (element_known (T := fun w' => False) (N := fun p' c' w' => p' = p ∧ c' = c ∧ Kd b be B w w') hes.ps hm 203 _ _ hlk (by decide) fun W hk => ?_).mono ?_
      · have := enReserved_any hX (hes.kn hk) (hgd.k_s h2 (by decide))
        rw [hr] at this
        refine this.mono ?_
        rintro e w' ⟨rfl, hk'⟩
        exact .inr ⟨p, c, rfl, rfl, rfl, (Kn.kd hk).trans hk'⟩
      · rintro e w' (⟨_, h⟩ | ⟨p', c', rfl, rfl, rfl, h⟩)
        · exact h.elim
        · exact ⟨rfl, h⟩
    | ok x' l' =>
      refine (element_known (T := fun w' => EnI b g cur be B mb xs w' x' l' ∧ Kd b be B w w') (N := fun p' c' w' => False) hes.ps hm 203 _ _ hlk (by decide) fun W hk => ?_).mono ?_
      · have := enReserved_any hX (hes.kn hk) (hgd.k_s h2 (by decide))
        rw [hr] at this
        refine this.mono ?_
        rintro e w' ⟨v, rfl, rfl, hE, hk'⟩
        exact .inl ⟨rfl, ⟨hE, hmk _ ((Kn.kd hk).trans hk')⟩, (Kn.kd hk).trans hk'⟩
      · rintro e w' (⟨rfl, h3, h4⟩ | ⟨p', c', _, h⟩)
        · exact ⟨_, rfl, rfl, h3, h4, enS_len (x := x) (x' := x') hgd (e.trans hr)⟩
        · exact h.elim
  by_cases h3 : sayW l = kOption
  · have e : enS x l = refuse l := by unfold enS; rw [if_neg h1, if_neg h2, if_pos h3]
    rw [e]
    have hlk : lookS xs (sayW l) = some (.func (.func 103) #[.pointer (some ⟨b, 0, none⟩)] #[]) := by rw [hx, h3]; rfl
    refine (element_known (T := fun w' => False) (N := fun p' c' w' => p' = (hdW l).p ∧ c' = 40 ∧ Kd b be B w w') hes.ps hm 103 _ _ hlk (by decide) fun W hk => ?_).mono ?_
    · refine (refuse_any (hes.ps.kn hk)).mono ?_
      rintro e w' ⟨rfl, hk'⟩
      exact .inr ⟨_, _, rfl, rfl, rfl, Kn.kd (hk.trans hk')⟩
    · rintro e w' (⟨_, h⟩ | ⟨p', c', rfl, rfl, rfl, h⟩)
      · exact h.elim
      · exact ⟨rfl, h⟩
  · have e : enS x l = roomP x.vals.length 64 l ((valP l).and fun v l => .ok { x with vals := x.vals ++ [v] } l) := by unfold enS; rw [if_neg h1, if_neg h2, if_neg h3]
    rw [e]
    have hlk : lookS xs (sayW l) = none := by rw [hx]; simp [enKey, lookS, h1, h2, h3]
    cases hr : roomP x.vals.length 64 l ((valP l).and fun v l => .ok { x with vals := x.vals ++ [v] } l) with
    | no p c =>
      refine (element_other (T := fun w' => False) (N := fun p' c' w' => p' = p ∧ c' = c ∧ Kd b be B w w') hes.ps hm 204 _ hlk (by decide) fun W hk => ?_).mono ?_
      · have := value_any (hes.kn hk)
        rw [hr] at this
        refine this.mono ?_
        rintro e w' ⟨rfl, hk'⟩
        exact .inr ⟨p, c, rfl, rfl, rfl, (Kn.kd hk).trans hk'⟩
      · rintro e w' (⟨_, h⟩ | ⟨p', c', rfl, rfl, rfl, h⟩)
        · exact h.elim
        · exact ⟨rfl, h⟩
    | ok x' l' =>
      refine (element_other (T := fun w' => EnI b g cur be B mb xs w' x' l' ∧ Kd b be B w w') (N := fun p' c' w' => False) hes.ps hm 204 _ hlk (by decide) fun W hk => ?_).mono ?_
      · have := value_any (hes.kn hk)
        rw [hr] at this
        refine this.mono ?_
        rintro e w' ⟨v, rfl, rfl, hE, hk'⟩
        exact .inl ⟨rfl, ⟨hE, hmk _ ((Kn.kd hk).trans hk')⟩, (Kn.kd hk).trans hk'⟩
      · rintro e w' (⟨rfl, h3, h4⟩ | ⟨p', c', _, h⟩)
        · exact ⟨_, rfl, rfl, h3, h4, enS_len (x := x) (x' := x') hgd (e.trans hr)⟩
        · exact h.elim
end
end Go.Proofs.YthmdaejlopjjoaaGreatDoor
