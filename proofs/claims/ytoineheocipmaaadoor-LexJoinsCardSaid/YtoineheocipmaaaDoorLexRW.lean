/-
  lex: the document's answer: the word at a place.
-/
import Derived.Test.YtoineheocipmaaaDoorLexAg
import Derived.Test.YtoineheocipmaaaDoorRUnq
namespace Go.Proofs.YtoineheocipmaaaDoor
open Go.RowKit
set_option linter.unusedVariables false
set_option linter.unusedSimpArgs false

/-- What the document's answer says of the word at a place. -/
def RwP (w : World) (T : Tk) (p : Nat) (e : Ending) (w' : World) : Prop := ∃ (k q : Nat) (t : ByteArray) (n z : Int), e = .returned (.tuple #[wv k q t n, .int .i64 z, .int .i64 T.e]) ∧ Below w.heap.size w w' ∧ (T.e = 0 → k = T.k ∧ q = p ∧ t = T.t ∧ n = T.n ∧ z = ((p + T.z : Nat) : Int))
theorem runL_all : ∀ (l : List UInt8), ∀ x ∈ runL l, wdZ (x.toNat : Nat) = true
  | [], x, h => by simp [runL] at h
  | c :: r, x, h => by
    rw [runL_cons] at h
    split at h
    · rename_i hc
      rcases List.mem_cons.1 h with rfl | h
      · exact hc
      · exact runL_all r x h
    · simp at h
theorem ident_len {c : UInt8} {r : List UInt8} (h : ltZ (c.toNat : Nat) = true) : identL (runL (c :: r)) = decide ((runL (c :: r)).length ≤ 32) := by
  have hk : decide (ltZ (c.toNat : Nat) = true → dgZ (c.toNat : Nat) = false ∧ wdZ (c.toNat : Nat) = true) = true := fin8 (p := fun c => decide (ltZ (c.toNat : Nat) = true → dgZ (c.toNat : Nat) = false ∧ wdZ (c.toNat : Nat) = true)) (by decide +kernel) c
  obtain ⟨h1, h2⟩ := of_decide_eq_true hk h
  have hall : (runL (c :: r)).all (fun x => idZ x.toNat) = true := by
    rw [List.all_eq_true]
    intro x hx
    have hx2 := runL_all (c :: r) x hx
    have hk2 : (wdZ (x.toNat : Nat) == idZ (x.toNat : Nat)) = true := fin8 (p := fun x => wdZ (x.toNat : Nat) == idZ (x.toNat : Nat)) (by decide +kernel) x
    have : wdZ (x.toNat : Nat) = idZ (x.toNat : Nat) := by simpa using hk2
    rw [← this]; exact hx2
  unfold identL
  rw [hall]
  rw [runL_cons, h2, if_pos rfl]
  simp [h1]

theorem two33 (w : World) (a b : Array Value) : Blk ((w.alloc (.cells a 24)).alloc (.cells b 24)) w.heap.size 24 a ∧ Blk ((w.alloc (.cells a 24)).alloc (.cells b 24)) (w.heap.size + 1) 24 b ∧ Below w.heap.size w ((w.alloc (.cells a 24)).alloc (.cells b 24)) := by
  have h2 := Blk.new (w.alloc (.cells a 24)) 24 b
  rw [World.size_alloc] at h2
  exact ⟨Blk.alloc (Blk.new w 24 a) _, h2, ((Below.refl _ w).alloc (Nat.le_refl _) _).alloc (by simp) _⟩
section
set_option maxRecDepth 100000
set_option maxHeartbeats 1000000
end
end Go.Proofs.YtoineheocipmaaaDoor
