/-
  tree: one element.
-/
import Derived.Test.YthmdaejlopjjoaaGreatDoorPaB
namespace Go.Proofs.YthmdaejlopjjoaaGreatDoor
open Go.RowKit
set_option linter.unusedVariables false
set_option linter.unusedSimpArgs false

theorem Tryz.underlying158 : Tryz.prog.underlying 158 = some (.map 9 1) := by kernel_rfl
theorem Tryz.zero1 (w : World) : (zeroValue 1).run Tryz.prog w = .ok .nilFunc w := by kernel_rfl
/-- A reader of an element ends: all is well, or it stops. -/
def EndP (T : World → Prop) (N : Nat → Nat → World → Prop) (e : Ending) (w' : World) : Prop := (e = .returned (.tuple #[]) ∧ T w') ∨ ∃ p c, e = Stp p c ∧ N p c w'
section
variable {w : World} {b g : Nat} {cur : Array Value} {l : List Wd}
theorem MapS.kn {w w' : World} {mb : Nat} {xs : List (ByteArray × Value)} (h : MapS w mb xs) {S : Nat → Prop} (hk : Kp S w w') (hS : ¬ S mb) : MapS w' mb xs := by
  obtain ⟨es, cl, h1, h2⟩ := h
  exact ⟨es, cl, (hk.block mb (Array.getElem?_eq_some_iff.mp h1).1 hS).trans h1, h2⟩
set_option maxRecDepth 100000 in
set_option maxHeartbeats 2000000 in
theorem element_known (h : Ps w b g cur l) {mb : Nat} {xs : List (ByteArray × Value)} (hm : MapS w mb xs) (F : Nat) (rv ov : Value) (hl : lookS xs (sayW l) = some (.func (.func F) #[rv] #[]))
    (hF : F = 103 ∨ F = 147 ∨ F = 203 ∨ F = 205 ∨ F = 223 ∨ F = 224 ∨ F = 225 ∨ F = 226 ∨ F = 227 ∨ F = 228 ∨ F = 229 ∨ F = 148 ∨ F = 149 ∨ F = 150 ∨ F = 151 ∨ F = 152)
    {T : World → Prop} {N : Nat → Nat → World → Prop} (hC : ∀ W, Kn w W → Calls Tryz.prog F #[rv] W (EndP T N)) : Calls Tryz.prog 102 #[.pointer (some ⟨b, 0, none⟩), .map (some mb), ov] w (EndP T N) := by
  have HS := Lib.hid (says_any h)
  have HC := Lib.hid hC
  have HM := Lib.hid fun (W : World) (k : Kn w W) => run_lookS (hm.kn k (fun f => f)) Tryz.underlying158 Tryz.underlying9 (sayW l) .nilFunc (Tryz.zero1 W)
  rw [hl] at HM
  generalize sayW l = S at *
  clear h hm hC hl
  rcases hF with rfl | rfl | rfl | rfl | rfl | rfl | rfl | rfl | rfl | rfl | rfl | rfl | rfl | rfl | rfl | rfl
  all_goals
    go_enter Tryz.func102, Tryz.ntmps102
    go_wp2_with fail
    refine HS.out.mono ?_
    rintro e w1 ⟨rfl, hk⟩
    have hlk := HM.out w1 hk
    simp only [Option.getD_some, Option.isSome_some] at hlk
    have HC1 := Lib.hid (HC.out w1 hk)
    clear hk
    go_wp2_with fail
    refine HC1.out.mono ?_
    rintro e w2 (⟨rfl, hT⟩ | ⟨p, c, rfl, hN⟩)
    · have HT := Lib.hid hT
      clear hT
      go_wp2_with fail
      go_end0
      exact .inl ⟨rfl, HT.out⟩
    · have HT := Lib.hid hN
      clear hN
      unfold Stp stopV
      go_wp2_with fail
      exact ⟨rfl, .inr ⟨p, c, rfl, HT.out⟩⟩
set_option maxRecDepth 100000 in
set_option maxHeartbeats 2000000 in
theorem element_other (h : Ps w b g cur l) {mb : Nat} {xs : List (ByteArray × Value)} (hm : MapS w mb xs) (F : Nat) (rv : Value) (hl : lookS xs (sayW l) = none)
    (hF : F = 103 ∨ F = 202 ∨ F = 204 ∨ F = 247)
    {T : World → Prop} {N : Nat → Nat → World → Prop} (hC : ∀ W, Kn w W → Calls Tryz.prog F #[rv] W (EndP T N)) : Calls Tryz.prog 102 #[.pointer (some ⟨b, 0, none⟩), .map (some mb), .func (.func F) #[rv] #[]] w (EndP T N) := by
  have HS := Lib.hid (says_any h)
  have HC := Lib.hid hC
  have HM := Lib.hid fun (W : World) (k : Kn w W) => run_lookS (hm.kn k (fun f => f)) Tryz.underlying158 Tryz.underlying9 (sayW l) .nilFunc (Tryz.zero1 W)
  rw [hl] at HM
  generalize sayW l = S at *
  clear h hm hC hl
  rcases hF with rfl | rfl | rfl | rfl
  all_goals
    go_enter Tryz.func102, Tryz.ntmps102
    go_wp2_with fail
    refine HS.out.mono ?_
    rintro e w1 ⟨rfl, hk⟩
    have hlk := HM.out w1 hk
    simp only [Option.getD_none, Option.isSome_none] at hlk
    have HC1 := Lib.hid (HC.out w1 hk)
    clear hk
    go_wp2_with fail
    refine HC1.out.mono ?_
    rintro e w2 (⟨rfl, hT⟩ | ⟨p, c, rfl, hN⟩)
    · have HT := Lib.hid hT
      clear hT
      go_wp2_with fail
      go_end0
      exact .inl ⟨rfl, HT.out⟩
    · have HT := Lib.hid hN
      clear hN
      unfold Stp stopV
      go_wp2_with fail
      exact ⟨rfl, .inr ⟨p, c, rfl, HT.out⟩⟩
end
end Go.Proofs.YthmdaejlopjjoaaGreatDoor
