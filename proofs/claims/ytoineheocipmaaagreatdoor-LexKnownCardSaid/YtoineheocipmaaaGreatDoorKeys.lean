/-
  Key, and the document's Key.
-/
import Derived.Test.YtoineheocipmaaaGreatDoorNames
namespace Go.Proofs.YtoineheocipmaaaGreatDoor
open Go.RowKit
set_option linter.unusedVariables false

theorem Tryz.info5 : (Tryz.prog.info? 5).map (fun i => (i.zero, i.size, i.bytes)) = some (some (.int .u8 0), 1, 1) := by kernel_rfl

/-- The key of bytes, behind an underscore or not. -/
def keyF : Bool → List UInt8 → List UInt8
  | _, [] => []
  | up, c :: r => if c.toNat = 95 then keyF true r else (if up && loZ c.toNat then UInt8.ofNat (c.toNat - 32) else c) :: keyF false r

def StrP (w : World) (l : List UInt8) (e : Ending) (w' : World) : Prop := e = .returned (.string ⟨l.toArray⟩) ∧ Below w.heap.size w w'

structure KeyR (w : World) (s : ByteArray) (K : List UInt8) (v : Value) (up : Bool) (k : Nat) (l : List UInt8) (wr : World) : Prop where
  own : Own wr w.heap.size v l
  fin : l ++ keyF up (s.data.toList.drop k) = K
  len : l.length ≤ k
  bel : Below w.heap.size w wr

theorem drop_at (s : ByteArray) (k : Nat) (h : k < s.size) : s.data.toList.drop k = s[k] :: s.data.toList.drop (k + 1) := by
  have hk : k < s.data.toList.length := by simpa using h
  rw [List.drop_eq_getElem_cons hk]; rfl

/-- A byte is joined. -/
theorem key_put {w wr w1 : World} {s : ByteArray} {K l : List UInt8} {v v1 : Value} {up : Bool} {k : Nat} {a : Int} {o : Obj} (h : KeyR w s K v up k l wr) (hk : k < s.size) (h95 : ¬ s[k].toNat = 95)
    (ha : a = if up && loZ s[k].toNat then (s[k].toNat : Int) - 32 else s[k].toNat) (hown : Own w1 w.heap.size v1 (l ++ [UInt8.ofNat a.toNat])) (hg : Grew (wr.alloc o) w1 v v1) : KeyR w s K v1 false (k + 1) (l ++ [UInt8.ofNat a.toNat]) w1 := by
  have hb := h.bel
  refine ⟨hown, ?_, by have := h.len; simp; omega, (hb.alloc hb.size _).trans (hg.below (by have := hb.size; simp; omega) (fun g e => (h.own.lt e).1))⟩
  rw [← h.fin, drop_at s k hk, keyF, if_neg h95, List.append_assoc]
  congr 1
  show [_] ++ _ = _ :: _
  rw [ha]
  by_cases q : (up && loZ s[k].toNat) = true
  · rw [if_pos q, if_pos q]
    have : ((s[k].toNat : Int) - 32).toNat = s[k].toNat - 32 := by omega
    rw [this]; rfl
  · rw [if_neg q, if_neg q, Int.toNat_natCast]; simp
/-- An underscore is left out. -/
theorem key_skip {w wr : World} {s : ByteArray} {K l : List UInt8} {v : Value} {up : Bool} {k : Nat} (h : KeyR w s K v up k l wr) (hk : k < s.size) (h95 : s[k].toNat = 95) : KeyR w s K v true (k + 1) l wr := by
  refine ⟨h.own, ?_, by have := h.len; omega, h.bel⟩
  rw [← h.fin, drop_at s k hk, keyF, if_pos h95]
theorem key_end {w wr : World} {s : ByteArray} {K l : List UInt8} {v : Value} {up : Bool} {k : Nat} (h : KeyR w s K v up k l wr) (hk : ¬ k < s.size) : l = K := by
  have := h.fin
  rw [List.drop_eq_nil_of_le (by simp; omega), keyF, List.append_nil] at this
  exact this

end Go.Proofs.YtoineheocipmaaaGreatDoor
