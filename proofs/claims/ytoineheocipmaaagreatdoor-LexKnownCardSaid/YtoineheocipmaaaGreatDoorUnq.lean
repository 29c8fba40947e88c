/-
  Unquote.
-/
import Derived.Test.YtoineheocipmaaaGreatDoorEscaped5
import Derived.Deep.QuietTactic
import Derived.BigQuiet
import Derived.WalkMore
import Derived.Deep.LoopGhost
namespace Go.Proofs.YtoineheocipmaaaGreatDoor
open Go.RowKit
set_option linter.unusedVariables false
set_option linter.unusedSimpArgs false

/-- The parts of a literal, up to its last quote. -/
def uqF (q : Int) : Nat → List UInt8 → Option (List UInt8)
  | _, [] => some []
  | 0, _ :: _ => none
  | k + 1, c :: r => if (c.toNat : Int) < 32 ∨ (c.toNat : Int) = q then none else if (c.toNat : Int) ≠ 92 then (uqF q k r).map (c :: ·)
    else if (escL r).2 = 0 then none else (uqF q k (r.drop (escL r).2)).map ((escL r).1 ++ ·)

/-- The value of a literal. -/
def unqL (l : List UInt8) : Option (List UInt8) :=
  if l.length < 2 then none else if (l.headD 0).toNat ≠ 34 ∧ (l.headD 0).toNat ≠ 39 then none else if l.getD (l.length - 1) 0 ≠ l.headD 0 then none
  else uqF ((l.headD 0).toNat : Nat) l.length ((l.drop 1).take (l.length - 2))
def ansR (o : Option (List UInt8)) : Nat × List UInt8 := match o with | none => (21, []) | some b => (0, b)

set_option maxRecDepth 100000 in
set_option maxHeartbeats 1000000 in
theorem unquote_short (s : ByteArray) (w : World) (h : s.size < 2) : Calls Tryz.prog 154 #[.string s] w (BytesP w (21, [])) := by
  have h' : decide ((s.size : Int) < 2) = true := by simp; omega
  go_enter Tryz.func154, Tryz.ntmps154
  go_wp2_with fail
  go_step3
  go_wp2_with fail
  go_quiet (fail)
  go_wp2_with fail
  rw [Exit.noGoto_ret]
  go_ret2
  exact ⟨_, rfl, Own.nil _ _, Below.drewN_ (Below.refl _ _) _⟩

set_option maxRecDepth 100000 in
set_option maxHeartbeats 1000000 in
theorem unquote_odd (s : ByteArray) (w : World) (h : 2 ≤ s.size) (hsz : s.size ≤ 1000000) (hq : (s[0].toNat : Int) ≠ 34) (hq2 : (s[0].toNat : Int) ≠ 39) : Calls Tryz.prog 154 #[.string s] w (BytesP w (21, [])) := by
  have h' : decide ((s.size : Int) < 2) = false := by simp; omega
  have h1 : (((s[0].toNat : Nat) : Int) == 34) = false := by simp; omega
  have h2 : (((s[0].toNat : Nat) : Int) == 39) = false := by simp; omega
  have hp : 0 < s.size := by omega
  go_enter Tryz.func154, Tryz.ntmps154
  go_wp2_with fail
  go_step3
  go_wp2_with fail
  go_quiet (fail)
  go_wp2_with fail
  rw [Exit.noGoto_ret]
  go_ret2
  exact ⟨_, rfl, Own.nil _ _, Below.drewN_ (Below.refl _ _) _⟩

set_option maxRecDepth 100000 in
set_option maxHeartbeats 1000000 in
theorem unquote_apart (s : ByteArray) (w : World) (h : 2 ≤ s.size) (hsz : s.size ≤ 1000000) (q : Int) (h34 : q = 34 ∨ q = 39) (hq : ((s[0].toNat : Nat) : Int) = q) (hne : ((s[s.size - 1].toNat : Nat) : Int) ≠ q) : Calls Tryz.prog 154 #[.string s] w (BytesP w (21, [])) := by
  have h' : decide ((s.size : Int) < 2) = false := by simp; omega
  have hp : 0 < s.size := by omega
  have hwr : IntKind.i64.wrap ((s.size : Int) - 1) = (s.size : Int) - 1 := IntWalk.i64_in _ (by omega)
  have hi0 : (0 : Int) ≤ (s.size : Int) - 1 := by omega
  have hi1 : ((s.size : Int) - 1).toNat = s.size - 1 := by omega
  have hi2 : (s.size : Int) - 1 < (s.size : Int) := by omega
  have hi3 : (1 : Int) ≤ (s.size : Int) := by omega
  have hl1 : (((s[s.size - 1].toNat : Nat) : Int) != q) = true := by simpa using hne
  have hl2 : (((s[s.size - 1].toNat : Nat) : Int) == q) = false := by simpa using hne
  clear hne
  rcases h34 with rfl | rfl
  all_goals
    go_enter Tryz.func154, Tryz.ntmps154
    go_wp2_with fail
    go_step3
    go_wp2_with fail
    go_quiet (fail)
    go_wp2_with fail
    rw [Exit.noGoto_ret]
    go_ret2
    exact ⟨_, rfl, Own.nil _ _, Below.drewN_ (Below.refl _ _) _⟩
end Go.Proofs.YtoineheocipmaaaGreatDoor
