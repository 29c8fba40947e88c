/-
  lex: Same, of two lists of the same words.
-/
import Derived.Test.YtoineheocipmaaaGreatDoorLexX
namespace Go.Proofs.YtoineheocipmaaaGreatDoor
open Go.RowKit
set_option linter.unusedVariables false
set_option linter.unusedSimpArgs false

theorem wcs_at1 : ∀ (l : List Wd) (i : Nat) (h : i < l.length), (wcs l)[i * 4 + 1]? = some (.int .i64 l[i].p)
  | x :: l, 0, _ => rfl
  | x :: l, i + 1, h => by
    have ih := wcs_at1 l i (by simpa using h)
    have e : wcs (x :: l) = x.cs ++ wcs l := rfl
    rw [e, List.getElem?_append_right (by simp [Wd.cs]; omega)]
    refine Eq.trans ?_ ih
    congr 1
    simp [Wd.cs]; omega
structure SmR (w w1 : World) (l : List Wd) (B1 B2 : Nat) (v u : Value) : Prop where
  o1 : OwnW w1 B1 v l
  o2 : OwnW w1 B2 u l
  b : Below w.heap.size w w1
theorem SmR.drewN {w w1 : World} {l : List Wd} {B1 B2 : Nat} {v u : Value} (h : SmR w w1 l B1 B2 v u) (m : Nat) : SmR w (w1.drewN m) l B1 B2 v u := ⟨h.o1, h.o2, Below.drewN_ h.b m⟩

set_option maxRecDepth 100000 in
set_option maxHeartbeats 1000000 in
theorem same_any (l : List Wd) (B1 B2 : Nat) (v u : Value) (w : World) (hv : OwnW w B1 v l) (hu : OwnW w B2 u l) (hl : l.length ≤ 1000000) :
    Calls Tryz.prog 15 #[v, u] w fun e w' => e = .returned (.bool true) ∧ Below w.heap.size w w' := by
  have HS := Lib.hid (SmR.mk (w := w) hv hu (Below.refl _ _))
  obtain ⟨A, c, rfl, _, _, _⟩ := hv.val
  obtain ⟨D, d, rfl, _, _, _⟩ := hu.val
  clear hv hu
  go_enter Tryz.func15, Tryz.ntmps15
  go_wp2_with fail
  go_loopg [5] l.length (fun g v wr => ∃ i : Nat, i ≤ l.length ∧ g = l.length - i ∧ v = .int .i64 i ∧ SmR w wr l B1 B2 (.slice A l.length c) (.slice D l.length d))
  case atStart => exact ⟨0, by omega, rfl, rfl, HS.out⟩
  case round =>
    obtain ⟨i, hi, rfl, rfl, hr⟩ := hrel
    have HR := Lib.hid hr
    by_cases hil : i < l.length
    · obtain ⟨A', c', he, _, _, hc⟩ := hr.o1.val
      obtain ⟨D', d', he2, _, _, hc2⟩ := hr.o2.val
      obtain ⟨g, hA, hcs⟩ := hc (by omega)
      obtain ⟨g2, hA2, hcs2⟩ := hc2 (by omega)
      simp only [Value.slice.injEq, true_and] at he he2
      obtain ⟨rfl, rfl⟩ := he
      obtain ⟨rfl, rfl⟩ := he2
      subst hA hA2
      have hw := wcs_at l i hil
      have hw1 := wcs_at1 l i hil
      have hwl := wcs_len l
      have q0 := (hcs (i * 4) (by omega)).trans hw.1
      have q1 := (hcs (i * 4 + 1) (by omega)).trans hw1
      have q2 := (hcs (i * 4 + 2) (by omega)).trans hw.2.1
      have q3 := (hcs (i * 4 + 3) (by omega)).trans hw.2.2
      have p0 := (hcs2 (i * 4) (by omega)).trans hw.1
      have p1 := (hcs2 (i * 4 + 1) (by omega)).trans hw1
      have p2 := (hcs2 (i * 4 + 2) (by omega)).trans hw.2.1
      have p3 := (hcs2 (i * 4 + 3) (by omega)).trans hw.2.2
      have hil' : (i : Int) < (l.length : Int) := by omega
      generalize hx : l[i] = x at *
      clear hr hc hcs hc2 hcs2 hw hw1 hwl
      go_wp2_with fail
      go_quiet (fail)
      go_wp2_with fail
      go_roundg (l.length - (i + 1))
      case measure => omega
      case rel => exact ⟨i + 1, by omega, rfl, by go_num, HR.out.drewN _⟩
    · obtain rfl : i = l.length := by omega
      clear hr
      go_wp2_with fail
      refine bodyPost_ret (v := .bool true) (by simp [results, Tryz.results15, go_sem]) rfl ⟨rfl, HR.out.b⟩
end Go.Proofs.YtoineheocipmaaaGreatDoor
