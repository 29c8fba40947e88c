/-
  appendEscaped: digits.
-/
import Derived.Test.YtoineheocipmaaaGreatDoorEscaped2
import Derived.Deep.QuietTactic
import Derived.BigQuiet
import Derived.Deep.RegionHeld3
import Derived.Deep.AppendLies
namespace Go.Proofs.YtoineheocipmaaaGreatDoor
open Go.RowKit
open Go.Lib (byteCells)
set_option linter.unusedVariables false
set_option linter.unusedSimpArgs false

theorem Below.drewN_ {B : Nat} {a w : World} (h : Below B a w) (m : Nat) : Below B a (w.drewN m) := ⟨h.os, h.tape, h.output, h.size, h.block⟩
theorem nmF_bound (base : Int) (hb : base ≤ 16) (hb0 : 0 ≤ base) : ∀ (k : Nat) (n : Int) (j : Nat) (l : List UInt8), 0 ≤ n → n < 16 ^ j → 0 ≤ (nmF base k n l).1 ∧ (nmF base k n l).1 < 16 ^ (j + (nmF base k n l).2) ∧ (nmF base k n l).2 ≤ k ∧ (nmF base k n l).2 ≤ l.length
  | 0, n, j, l, h0, h1 => by rw [nmF]; exact ⟨h0, by simpa using h1, by simp, by simp⟩
  | k + 1, n, j, [], h0, h1 => by rw [nmF]; exact ⟨h0, by simpa using h1, by simp, by simp⟩
  | k + 1, n, j, c :: r, h0, h1 => by
    rw [nmF]
    by_cases hd : dgV c.toNat < base
    · rw [if_pos hd]
      have hr := dgV_range c.toNat
      have p0 : 0 ≤ n * base := Int.mul_nonneg h0 hb0
      have p1 : n * base + base ≤ 16 ^ j * 16 := by
        have h2 : (n + 1) * base ≤ (n + 1) * 16 := Int.mul_le_mul_of_nonneg_left hb (by omega)
        rw [Int.add_mul, Int.add_mul] at h2
        omega
      have ih := nmF_bound base hb hb0 k (n * base + dgV c.toNat) (j + 1) r (by omega) (by rw [Int.pow_succ]; omega)
      refine ⟨ih.1, ?_, by simp only; have := ih.2.2.1; omega, by simp only [List.length_cons]; have := ih.2.2.2; omega⟩
      have := ih.2.1
      simp only
      rw [show j + ((nmF base k (n * base + dgV c.toNat) r).2 + 1) = j + 1 + (nmF base k (n * base + dgV c.toNat) r).2 by omega]
      exact this
    · rw [if_neg hd]
      exact ⟨h0, by simpa using h1, by simp, by simp⟩
theorem pow16_8 (k : Nat) (h : k ≤ 8) : (16 : Int) ^ k ≤ 4294967296 := by
  have : ∀ q : Fin 9, (16 : Int) ^ q.val ≤ 4294967296 := by decide
  exact this ⟨k, by omega⟩
theorem nm_fine {base : Int} {k : Nat} {l : List UInt8} {N : Int} {C : Nat} (hb : base = 8 ∨ base = 16) (hk : k ≤ 8) (h : nmF base k 0 l = (N, C)) : 0 ≤ N ∧ N < 4294967296 ∧ C ≤ 8 ∧ C ≤ l.length := by
  have := nmF_bound base (by omega) (by omega) k 0 0 l (by omega) (by decide)
  rw [h] at this
  simp only [Nat.zero_add] at this
  have p := pow16_8 C (by omega)
  omega

/-- appendRune, and a cell that it leaves alone. -/
theorem appendRune_kept {w : World} {base : Nat} {v : Value} {l : List UInt8} {r : Int} (p : Addr) (hp : p.block < w.heap.size) (hv : v.ownBlock ≠ some p.block) (h0 : -2147483648 ≤ r) (h1 : r ≤ 2147483647) (ho : Own w base v l) (hl : l.length + 4 ≤ 140737488355328) (hb : base ≤ w.heap.size) :
    Calls Tryz.prog 229 #[v, .int .i32 r] w fun e w' => ∃ v', e = .returned v' ∧ Own w' base v' (l ++ Lib.encodeRune r) ∧ Below base w w' ∧ w'.cell? p = w.cell? p := by
  refine (Tryz.utf8_AppendRune_plain base v l.length (byteCells l) r h0 h1 w ho hl hb).mono fun e w' hp' => ?_
  obtain ⟨v', rfl, h2, o, hg⟩ := hp'
  refine ⟨v', rfl, ?_, ?_, ?_⟩
  · unfold Own
    rw [List.length_append, Lib.byteCells_append, Lib.byteCells_encodeRune, ← Lib.runeCells_length]
    exact h2
  · exact Below.grown ((Below.refl _ _).alloc hb _) hg (by simp; omega) (fun g e => (ho.lt e).1)
  · rw [hg.cell_far p (by simp; omega) (Ne.symm hv)]
    exact World.cell?_of_block (Below.heap_alloc w o p.block hp)

set_option maxRecDepth 100000 in
set_option maxHeartbeats 2000000 in
theorem escaped_few {w : World} {base b : Nat} {v : Value} {l : List UInt8} {x : Esc} {N : Int} {C : Nat} (s : ByteArray) (ho : Own w base v l) (hm : MapAt w b escs) (hsz : s.size ≤ 1000000) (hb : base ≤ w.heap.size) (hl0 : l.length ≤ 1000000000) (hp : 0 < s.size) (hx : lookT escT (s[0].toNat : Nat) = some x) (hbase : x.base ≠ 0)
    (hN : nmF x.base x.most 0 (s.data.toList.drop x.skip) = (N, C)) (hfew : C < x.least ∨ (x.least ≤ C ∧ ((x.r = true ∧ rnB N = false) ∨ (x.r = false ∧ 255 < N)))) :
    Calls Tryz.prog 201 #[v, .string s, .map (some b)] w (EscP w base l ([], 0)) := by
  have e1 := (str_ne hp).1
  have e2 := (str_ne hp).2
  have hf := esc_fine _ _ hx
  have hl := run_look (P := Tryz.prog) hm Tryz.underlying240 Tryz.underlying5 (s[0].toNat : Nat) _ (Tryz.zero262 w)
  rw [escs_eq, look_map, hx] at hl
  simp only [Option.map_some, Option.getD_some, Option.isSome_some, Esc.val] at hl
  obtain ⟨xv, xb, xs, xl, xm, xr⟩ := x
  simp only at hl hf hbase hN hfew
  obtain ⟨f1, f2, f3, f4⟩ := hf
  have hfine := nm_fine (by omega) f4 hN
  have hnum : ∀ W, Calls Tryz.prog 227 #[.string (s.extract xs s.size), .int .i64 xb, .int .i64 xm] W fun e w' => e = .returned (.tuple #[.int .i64 N, .int .i64 (C : Nat)]) ∧ w' = W := by
    intro W
    refine (number_any (s.extract xs s.size) xb xm W (by omega) (by omega) (by simp [ByteArray.size_extract]; omega)).mono ?_
    rw [Lib.extract_to_end, hN]
    exact fun e w' h => ⟨h.1, h.2.symm⟩
  have HNUM := Lib.hid hnum
  have hb0 : ((xb : Int) == 0) = false := by simp; omega
  have hx0 : (0 : Int) ≤ (xs : Int) := by omega
  have hx1 : (xs : Int) ≤ (s.size : Int) := by omega
  have hx2 : ((xs : Int)).toNat = xs := by omega
  obtain ⟨g1, g2, g3, g4⟩ := hfine
  have HO : ∀ m o, EscP w base l ([], 0) (.returned (.tuple #[v, .int .i64 0])) ((w.alloc o).drewN m) := fun m o => ⟨_, rfl, by rw [List.append_nil]; exact (ho.alloc _).drewN _, Below.drewN_ ((Below.refl _ _).alloc hb _) _⟩
  have HOO := Lib.hid HO
  clear HO hm hx hN hnum f2 f3 f4 hbase
  rcases hfew with hlt | ⟨hge, ⟨rfl, hr⟩ | ⟨rfl, hr⟩⟩
  · have hlt' : (C : Int) < (xl : Int) := by omega
    go_enter Tryz.func201, Tryz.ntmps201
    go_wp2_with fail
    go_quiet ((go_at_call 227; exact Calls.quiet_of_same (HNUM.out _)))
    go_wp2_with fail
    go_ret2
    exact HOO.out _ _
  · have hge' : ¬ (C : Int) < (xl : Int) := by omega
    have hrn := fun W => isRune_any N W
    simp only [hr] at hrn
    have HRN := Lib.hid hrn
    clear hrn hr
    go_enter Tryz.func201, Tryz.ntmps201
    go_wp2_with fail
    go_quiet ((go_at_call 227; exact Calls.quiet_of_same (HNUM.out _)))
    go_wp2_with fail
    refine (HRN.out _).mono ?_
    rintro e _ ⟨rfl, rfl⟩
    go_wp2_with fail
    go_ret2
    exact HOO.out _ _
  · have hge' : ¬ (C : Int) < (xl : Int) := by omega
    have hr' : ¬ N ≤ 255 := by omega
    go_enter Tryz.func201, Tryz.ntmps201
    go_wp2_with fail
    go_quiet ((go_at_call 227; exact Calls.quiet_of_same (HNUM.out _)))
    go_wp2_with fail
    go_ret2
    exact HOO.out _ _

end Go.Proofs.YtoineheocipmaaaGreatDoor
