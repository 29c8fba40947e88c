/-
  appendEscaped: what stands behind a backslash.
  appendEscaped, walked.
  appendEscaped: digits.
  appendEscaped: digits of a rune, of a byte.
-/
import Derived.Test.YthmdaejlopjjoaaGreatDoorKyA
import Derived.Deep.DeepCutAuto
import Derived.Deep.RegionHeld3
import Derived.Deep.QuietTactic
import Derived.BigQuiet
import Derived.Deep.AppendLies
namespace Go.Proofs.YthmdaejlopjjoaaGreatDoor
section
open Go.RowKit
set_option linter.unusedVariables false
set_option linter.unusedSimpArgs false

/-- A row of the table: a byte, or a base, how far its digits are, how many there are at least and at most, and whether they tell a rune. -/
structure Esc where
  v : Nat
  base : Nat
  skip : Nat
  least : Nat
  most : Nat
  r : Bool
def Esc.val (x : Esc) : Value := .agg #[.int .u8 x.v, .int .i64 x.base, .int .i64 x.skip, .int .i64 x.least, .int .i64 x.most, .bool x.r]
def escT : List (Int × Esc) := [(97, ⟨7, 0, 0, 0, 0, false⟩), (98, ⟨8, 0, 0, 0, 0, false⟩), (102, ⟨12, 0, 0, 0, 0, false⟩), (110, ⟨10, 0, 0, 0, 0, false⟩), (114, ⟨13, 0, 0, 0, 0, false⟩), (116, ⟨9, 0, 0, 0, 0, false⟩), (118, ⟨11, 0, 0, 0, 0, false⟩),
  (92, ⟨92, 0, 0, 0, 0, false⟩), (39, ⟨39, 0, 0, 0, 0, false⟩), (34, ⟨34, 0, 0, 0, 0, false⟩), (63, ⟨63, 0, 0, 0, 0, false⟩),
  (48, ⟨0, 8, 0, 1, 3, false⟩), (49, ⟨0, 8, 0, 1, 3, false⟩), (50, ⟨0, 8, 0, 1, 3, false⟩), (51, ⟨0, 8, 0, 1, 3, false⟩), (52, ⟨0, 8, 0, 1, 3, false⟩), (53, ⟨0, 8, 0, 1, 3, false⟩), (54, ⟨0, 8, 0, 1, 3, false⟩), (55, ⟨0, 8, 0, 1, 3, false⟩),
  (120, ⟨0, 16, 1, 1, 2, false⟩), (88, ⟨0, 16, 1, 1, 2, false⟩), (117, ⟨0, 16, 1, 4, 4, true⟩), (85, ⟨0, 16, 1, 8, 8, true⟩)]
theorem escs_eq : escs = escT.map fun x => (x.1, x.2.val) := rfl
def lookT : List (Int × Esc) → Int → Option Esc
  | [], _ => none
  | x :: xs, z => if z = x.1 then some x.2 else lookT xs z
theorem look_map : ∀ (l : List (Int × Esc)) (z : Int), lookL (l.map fun x => (x.1, x.2.val)) z = (lookT l z).map Esc.val
  | [], _ => rfl
  | x :: l, z => by
    simp only [List.map_cons, lookL, lookT]
    by_cases q : z = x.1
    · rw [if_pos q, if_pos q]; rfl
    · rw [if_neg q, if_neg q]; exact look_map l z
theorem lookT_mem : ∀ (l : List (Int × Esc)) (z : Int) (x : Esc), lookT l z = some x → ∃ k, (k, x) ∈ l
  | y :: l, z, x, h => by
    rw [lookT] at h
    by_cases q : z = y.1
    · rw [if_pos q] at h
      injection h with h
      exact ⟨y.1, by rw [← h]; simp⟩
    · rw [if_neg q] at h
      obtain ⟨k, hk⟩ := lookT_mem l z x h
      exact ⟨k, by simp [hk]⟩
theorem esc_fine (z : Int) (x : Esc) (h : lookT escT z = some x) : x.v < 256 ∧ (x.base = 0 ∨ x.base = 8 ∨ x.base = 16) ∧ x.skip ≤ 1 ∧ x.most ≤ 8 := by
  obtain ⟨k, hk⟩ := lookT_mem escT z x h
  simp only [escT, List.mem_cons, List.mem_nil_iff, or_false, Prod.mk.injEq] at hk
  rcases hk with ⟨_, rfl⟩ | ⟨_, rfl⟩ | ⟨_, rfl⟩ | ⟨_, rfl⟩ | ⟨_, rfl⟩ | ⟨_, rfl⟩ | ⟨_, rfl⟩ | ⟨_, rfl⟩ | ⟨_, rfl⟩ | ⟨_, rfl⟩ | ⟨_, rfl⟩ | ⟨_, rfl⟩ | ⟨_, rfl⟩ | ⟨_, rfl⟩ | ⟨_, rfl⟩ | ⟨_, rfl⟩ | ⟨_, rfl⟩ | ⟨_, rfl⟩ | ⟨_, rfl⟩ | ⟨_, rfl⟩ | ⟨_, rfl⟩ | ⟨_, rfl⟩ | ⟨_, rfl⟩ <;> simp

/-- What digits tell, by a row: the bytes, and how many bytes of the text; 0: it is none. -/
def escN (x : Esc) (q : Int × Nat) : List UInt8 × Nat :=
  if q.2 < x.least then ([], 0) else if x.r && rnB q.1 then (Lib.encodeRune q.1, x.skip + q.2) else if !x.r && decide (q.1 ≤ 255) then ([UInt8.ofNat q.1.toNat], x.skip + q.2) else ([], 0)
def escX (x : Esc) (l : List UInt8) : List UInt8 × Nat := if x.base = 0 then ([UInt8.ofNat x.v], 1) else escN x (nmF x.base x.most 0 (l.drop x.skip))
/-- What stands behind a backslash. -/
def escL (l : List UInt8) : List UInt8 × Nat := match l with
  | [] => ([], 0)
  | c :: _ => match lookT escT c.toNat with
    | none => ([], 0)
    | some x => escX x l
end
section
open Go.RowKit
set_option linter.unusedVariables false
set_option linter.unusedSimpArgs false

/-- Bytes joined, and how many bytes were read. -/
def EscP (w : World) (base : Nat) (l : List UInt8) (R : List UInt8 × Nat) (e : Ending) (w' : World) : Prop := ∃ v', e = .returned (.tuple #[v', .int .i64 (R.2 : Nat)]) ∧ Own w' base v' (l ++ R.1) ∧ Below base w w'

theorem Tryz.zero256 (w : World) : (zeroValue 256).run Tryz.prog w = .ok (.agg #[.int .u8 0, .int .i64 0, .int .i64 0, .int .i64 0, .int .i64 0, .bool false]) w := by kernel_rfl

set_option maxRecDepth 100000 in
set_option maxHeartbeats 1000000 in
theorem escaped_none {w : World} {base b : Nat} {v : Value} {l : List UInt8} (s : ByteArray) (ho : Own w base v l) (hm : MapAt w b escs) (hsz : s.size ≤ 1000000) (hb : base ≤ w.heap.size) (hno : s.size = 0 ∨ ∃ h : 0 < s.size, lookT escT (s[0].toNat : Nat) = none) :
    Calls Tryz.prog 198 #[v, .string s, .map (some b)] w (EscP w base l ([], 0)) := by
  obtain ⟨A, k, c, rfl⟩ := ho.val
  rcases hno with h0 | ⟨hp, hn⟩
  · have hn := (str_nil h0).1
    have hn2 := (str_nil h0).2
    go_enter Tryz.func198, Tryz.ntmps198
    go_wp2
    go_ret2
    exact ⟨_, rfl, by simpa using ho, Below.refl _ _⟩
  · have e1 := (str_ne hp).1
    have e2 := (str_ne hp).2
    have hl := run_look (P := Tryz.prog) hm Tryz.underlying231 Tryz.underlying5 (s[0].toNat : Nat) _ (Tryz.zero256 w)
    rw [escs_eq, look_map, hn] at hl
    simp only [Option.map_none, Option.getD_none, Option.isSome_none] at hl
    clear hn hm
    go_enter Tryz.func198, Tryz.ntmps198
    go_wp2
    go_ret2
    exact ⟨_, rfl, by rw [List.append_nil]; exact ho.alloc _, (Below.refl _ _).alloc hb _⟩

set_option maxRecDepth 100000 in
set_option maxHeartbeats 1000000 in
theorem escaped_byte {w : World} {base b : Nat} {v : Value} {l : List UInt8} {x : Esc} (s : ByteArray) (ho : Own w base v l) (hm : MapAt w b escs) (hsz : s.size ≤ 1000000) (hb : base ≤ w.heap.size) (hl0 : l.length ≤ 1000000000) (hp : 0 < s.size) (hx : lookT escT (s[0].toNat : Nat) = some x) (hbase : x.base = 0) :
    Calls Tryz.prog 198 #[v, .string s, .map (some b)] w (EscP w base l ([UInt8.ofNat x.v], 1)) := by
  obtain ⟨i0, hi0, hz0, hz1, hz2⟩ := info_parts Tryz.info5k
  have e1 := (str_ne hp).1
  have e2 := (str_ne hp).2
  have hf := esc_fine _ _ hx
  have hl := run_look (P := Tryz.prog) hm Tryz.underlying231 Tryz.underlying5 (s[0].toNat : Nat) _ (Tryz.zero256 w)
  rw [escs_eq, look_map, hx] at hl
  simp only [Option.map_some, Option.getD_some, Option.isSome_some, Esc.val] at hl
  obtain ⟨xv, xb, xs, xl, xm, xr⟩ := x
  simp only at hl hf hbase
  subst hbase
  have hv := hf.1
  have hb0 : (((0 : Nat) : Int) == 0) = true := rfl
  clear hx hm hf
  have hsing : ∀ o : Obj, Bs ((w.alloc o).alloc (.cells #[.int .u8 (xv : Int)] 5)) (w.heap.size + 1) (w.heap.size + 1 + 1) (some ⟨w.heap.size + 1, 0, none⟩) 1 1 [UInt8.ofNat xv] := by
    intro o
    have := Bs.single (w.alloc o) (xv : Int) (by omega) (by omega)
    simpa using this
  have HSG := Lib.hid hsing
  have hln : l.length + 1 ≤ 140737488355328 := by omega
  clear hsing
  go_enter Tryz.func198, Tryz.ntmps198
  go_wp2_with (at_builtin; refine wpList_append_bs _ rfl _ _ 165 rfl i0 Tryz.underlying165 hi0 hz0 hz1 hz2 base _ _ rfl ((ho.alloc _).alloc _) _ _ _ _ _ _ rfl (HSG.out _) hln (by simp; omega) ?_; intro v2 w2 ho2 hg2)
  go_ret2
  exact ⟨_, rfl, ho2, ((((Below.refl _ _).alloc hb _).alloc (by simp; omega) _)).trans (hg2.below (by simp; omega) (fun g e => (ho.lt e).1))⟩
end
section
open Go.RowKit
open Go.Lib (byteCells)
set_option linter.unusedVariables false
set_option linter.unusedSimpArgs false

theorem Below.drewN_ {B : Nat} {a w : World} (h : Below B a w) (m : Nat) : Below B a (w.drewN m) := ⟨h.os, h.tape, h.output, h.size, h.block⟩
theorem nmF_bound (base : Int) (hb : base ≤ 16) (hb0 : 0 ≤ base) : ∀ (k : Nat) (n : Int) (j : Nat) (l : List UInt8), 0 ≤ n → n < 16 ^ j → 0 ≤ (nmF base k n l).1 ∧ (nmF base k n l).1 < 16 ^ (j + (nmF base k n l).2) ∧ (nmF base k n l).2 ≤ k ∧ (nmF base k n l).2 ≤ l.length
  | 0, n, j, l, h0, h1 => by rw [nmF]; exact ⟨h0, by simpa using h1, by simp, by simp⟩
  | k + 1, n, j, [], h0, h1 => by rw [nmF]; exact ⟨h0, by simpa using h1, by simp, by simp⟩
  | k + 1, n, j, c :: r, h0, h1 => by
    rw [nmF]
    by_cases hd : dgV c.toNat < base
    · rw [if_pos hd]
      have hr := dgV_range c.toNat
      have p0 : 0 ≤ n * base := Int.mul_nonneg h0 hb0
      have p1 : n * base + base ≤ 16 ^ j * 16 := by
        have h2 : (n + 1) * base ≤ (n + 1) * 16 := Int.mul_le_mul_of_nonneg_left hb (by omega)
        rw [Int.add_mul, Int.add_mul] at h2
        omega
      have ih := nmF_bound base hb hb0 k (n * base + dgV c.toNat) (j + 1) r (by omega) (by rw [Int.pow_succ]; omega)
      refine ⟨ih.1, ?_, by simp only; have := ih.2.2.1; omega, by simp only [List.length_cons]; have := ih.2.2.2; omega⟩
      have := ih.2.1
      simp only
      rw [show j + ((nmF base k (n * base + dgV c.toNat) r).2 + 1) = j + 1 + (nmF base k (n * base + dgV c.toNat) r).2 by omega]
      exact this
    · rw [if_neg hd]
      exact ⟨h0, by simpa using h1, by simp, by simp⟩
theorem pow16_8 (k : Nat) (h : k ≤ 8) : (16 : Int) ^ k ≤ 4294967296 := by
  have : ∀ q : Fin 9, (16 : Int) ^ q.val ≤ 4294967296 := by decide
  exact this ⟨k, by omega⟩
theorem nm_fine {base : Int} {k : Nat} {l : List UInt8} {N : Int} {C : Nat} (hb : base = 8 ∨ base = 16) (hk : k ≤ 8) (h : nmF base k 0 l = (N, C)) : 0 ≤ N ∧ N < 4294967296 ∧ C ≤ 8 ∧ C ≤ l.length := by
  have := nmF_bound base (by omega) (by omega) k 0 0 l (by omega) (by decide)
  rw [h] at this
  simp only [Nat.zero_add] at this
  have p := pow16_8 C (by omega)
  omega

/-- appendRune, and a cell that it leaves alone. -/
theorem appendRune_kept {w : World} {base : Nat} {v : Value} {l : List UInt8} {r : Int} (p : Addr) (hp : p.block < w.heap.size) (hv : v.ownBlock ≠ some p.block) (h0 : -2147483648 ≤ r) (h1 : r ≤ 2147483647) (ho : Own w base v l) (hl : l.length + 4 ≤ 140737488355328) (hb : base ≤ w.heap.size) :
    Calls Tryz.prog 222 #[v, .int .i32 r] w fun e w' => ∃ v', e = .returned v' ∧ Own w' base v' (l ++ Lib.encodeRune r) ∧ Below base w w' ∧ w'.cell? p = w.cell? p := by
  refine (Tryz.utf8_AppendRune_plain base v l.length (byteCells l) r h0 h1 w ho hl hb).mono fun e w' hp' => ?_
  obtain ⟨v', rfl, h2, o, hg⟩ := hp'
  refine ⟨v', rfl, ?_, ?_, ?_⟩
  · unfold Own
    rw [List.length_append, Lib.byteCells_append, Lib.byteCells_encodeRune, ← Lib.runeCells_length]
    exact h2
  · exact Below.grown ((Below.refl _ _).alloc hb _) hg (by simp; omega) (fun g e => (ho.lt e).1)
  · rw [hg.cell_far p (by simp; omega) (Ne.symm hv)]
    exact World.cell?_of_block (Below.heap_alloc w o p.block hp)

set_option maxRecDepth 100000 in
set_option maxHeartbeats 2000000 in
theorem escaped_few {w : World} {base b : Nat} {v : Value} {l : List UInt8} {x : Esc} {N : Int} {C : Nat} (s : ByteArray) (ho : Own w base v l) (hm : MapAt w b escs) (hsz : s.size ≤ 1000000) (hb : base ≤ w.heap.size) (hl0 : l.length ≤ 1000000000) (hp : 0 < s.size) (hx : lookT escT (s[0].toNat : Nat) = some x) (hbase : x.base ≠ 0)
    (hN : nmF x.base x.most 0 (s.data.toList.drop x.skip) = (N, C)) (hfew : C < x.least ∨ (x.least ≤ C ∧ ((x.r = true ∧ rnB N = false) ∨ (x.r = false ∧ 255 < N)))) :
    Calls Tryz.prog 198 #[v, .string s, .map (some b)] w (EscP w base l ([], 0)) := by
  have e1 := (str_ne hp).1
  have e2 := (str_ne hp).2
  have hf := esc_fine _ _ hx
  have hl := run_look (P := Tryz.prog) hm Tryz.underlying231 Tryz.underlying5 (s[0].toNat : Nat) _ (Tryz.zero256 w)
  rw [escs_eq, look_map, hx] at hl
  simp only [Option.map_some, Option.getD_some, Option.isSome_some, Esc.val] at hl
  obtain ⟨xv, xb, xs, xl, xm, xr⟩ := x
  simp only at hl hf hbase hN hfew
  obtain ⟨f1, f2, f3, f4⟩ := hf
  have hfine := nm_fine (by omega) f4 hN
  have hnum : ∀ W, Calls Tryz.prog 220 #[.string (s.extract xs s.size), .int .i64 xb, .int .i64 xm] W fun e w' => e = .returned (.tuple #[.int .i64 N, .int .i64 (C : Nat)]) ∧ w' = W := by
    intro W
    refine (number_t (s.extract xs s.size) xb xm W (by omega) (by omega) (by simp [ByteArray.size_extract]; omega)).mono ?_
    rw [Lib.extract_to_end, hN]
    exact fun e w' h => ⟨h.1, h.2.symm⟩
  have HNUM := Lib.hid hnum
  have hb0 : ((xb : Int) == 0) = false := by simp; omega
  have hx0 : (0 : Int) ≤ (xs : Int) := by omega
  have hx1 : (xs : Int) ≤ (s.size : Int) := by omega
  have hx2 : ((xs : Int)).toNat = xs := by omega
  obtain ⟨g1, g2, g3, g4⟩ := hfine
  have HO : ∀ m o, EscP w base l ([], 0) (.returned (.tuple #[v, .int .i64 0])) ((w.alloc o).drewN m) := fun m o => ⟨_, rfl, by rw [List.append_nil]; exact (ho.alloc _).drewN _, Below.drewN_ ((Below.refl _ _).alloc hb _) _⟩
  have HOO := Lib.hid HO
  clear HO hm hx hN hnum f2 f3 f4 hbase
  rcases hfew with hlt | ⟨hge, ⟨rfl, hr⟩ | ⟨rfl, hr⟩⟩
  · have hlt' : (C : Int) < (xl : Int) := by omega
    go_enter Tryz.func198, Tryz.ntmps198
    go_wp2_with fail
    go_quiet ((go_at_call 220; exact Calls.quiet_of_same (HNUM.out _)))
    go_wp2_with fail
    go_ret2
    exact HOO.out _ _
  · have hge' : ¬ (C : Int) < (xl : Int) := by omega
    have hrn := fun W => isRune_any N W
    simp only [hr] at hrn
    have HRN := Lib.hid hrn
    clear hrn hr
    go_enter Tryz.func198, Tryz.ntmps198
    go_wp2_with fail
    go_quiet ((go_at_call 220; exact Calls.quiet_of_same (HNUM.out _)))
    go_wp2_with fail
    refine (HRN.out _).mono ?_
    rintro e _ ⟨rfl, rfl⟩
    go_wp2_with fail
    go_ret2
    exact HOO.out _ _
  · have hge' : ¬ (C : Int) < (xl : Int) := by omega
    have hr' : ¬ N ≤ 255 := by omega
    go_enter Tryz.func198, Tryz.ntmps198
    go_wp2_with fail
    go_quiet ((go_at_call 220; exact Calls.quiet_of_same (HNUM.out _)))
    go_wp2_with fail
    go_ret2
    exact HOO.out _ _
end
section
open Go.RowKit
open Go.Lib (byteCells)
set_option linter.unusedVariables false
set_option linter.unusedSimpArgs false

set_option maxRecDepth 100000 in
set_option maxHeartbeats 400000 in
theorem escaped_rune {w : World} {base b : Nat} {v : Value} {l : List UInt8} {x : Esc} {N : Int} {C : Nat} (s : ByteArray) (ho : Own w base v l) (hm : MapAt w b escs) (hsz : s.size ≤ 1000000) (hb : base ≤ w.heap.size) (hl0 : l.length ≤ 1000000000) (hp : 0 < s.size) (hx : lookT escT (s[0].toNat : Nat) = some x) (hbase : x.base ≠ 0)
    (hN : nmF x.base x.most 0 (s.data.toList.drop x.skip) = (N, C)) (hge : x.least ≤ C) (hxr : x.r = true) (hr : rnB N = true) :
    Calls Tryz.prog 198 #[v, .string s, .map (some b)] w (EscP w base l (Lib.encodeRune N, x.skip + C)) := by
  have e1 := (str_ne hp).1
  have e2 := (str_ne hp).2
  have hf := esc_fine _ _ hx
  have hl := run_look (P := Tryz.prog) hm Tryz.underlying231 Tryz.underlying5 (s[0].toNat : Nat) _ (Tryz.zero256 w)
  rw [escs_eq, look_map, hx] at hl
  simp only [Option.map_some, Option.getD_some, Option.isSome_some, Esc.val] at hl
  obtain ⟨xv, xb, xs, xl, xm, xr⟩ := x
  simp only at hl hf hbase hN hge hxr
  subst hxr
  obtain ⟨f1, f2, f3, f4⟩ := hf
  have hfine := nm_fine (by omega) f4 hN
  have hnum : ∀ W, Calls Tryz.prog 220 #[.string (s.extract xs s.size), .int .i64 xb, .int .i64 xm] W fun e w' => e = .returned (.tuple #[.int .i64 N, .int .i64 (C : Nat)]) ∧ w' = W := by
    intro W
    refine (number_t (s.extract xs s.size) xb xm W (by omega) (by omega) (by simp [ByteArray.size_extract]; omega)).mono ?_
    rw [Lib.extract_to_end, hN]
    exact fun e w' h => ⟨h.1, h.2.symm⟩
  have HNUM := Lib.hid hnum
  have hb0 : ((xb : Int) == 0) = false := by simp; omega
  have hx0 : (0 : Int) ≤ (xs : Int) := by omega
  have hx1 : (xs : Int) ≤ (s.size : Int) := by omega
  have hx2 : ((xs : Int)).toNat = xs := by omega
  obtain ⟨g1, g2, g3, g4⟩ := hfine
  have hrange : 0 ≤ N ∧ N ≤ 1114111 := by have := hr; unfold rnB at this; simp at this; omega
  obtain ⟨r0, r1⟩ := hrange
  have hge' : ¬ (C : Int) < (xl : Int) := by omega
  have hrn := fun W => isRune_any N W
  simp only [hr] at hrn
  have HRN := Lib.hid hrn
  have ag : v.ownBlock ≠ some w.heap.size := fun h => by have := (ho.lt h).2; omega
  have hwr : IntKind.i64.wrap ((xs : Int) + (C : Int)) = (xs : Int) + (C : Int) := IntWalk.i64_in _ (by omega)
  have hw32 : IntKind.i32.wrap N = N := IntWalk.i32_in _ (by omega)
  have hall : ∀ (m : Nat) W, W.heap = (w.alloc (.cells #[.int .u8 xv, .int .i64 xb, .int .i64 xs, .int .i64 xl, .int .i64 xm, .bool true] 256)).heap → Calls Tryz.prog 222 #[v, .int .i32 N] W fun e w' => ∃ v', e = .returned v' ∧ Own w' base v' (l ++ Lib.encodeRune N) ∧ Below base W w' ∧ w'.cell? ⟨w.heap.size, 2, none⟩ = some (.int .i64 xs) := by
    intro m W hW
    refine (appendRune_kept ⟨w.heap.size, 2, none⟩ (by rw [hW]; simp) ag (by omega) (by omega) ((ho.alloc _).kept fun g hg => by rw [hW]) (by omega) (by rw [hW]; simp; omega)).mono fun e w' h => ?_
    obtain ⟨v', h1, h2, h3, h4⟩ := h
    refine ⟨v', h1, h2, h3, ?_⟩
    have h5 : W.cell? ⟨w.heap.size, 2, none⟩ = (w.alloc (.cells #[.int .u8 xv, .int .i64 xb, .int .i64 xs, .int .i64 xl, .int .i64 xm, .bool true] 256)).cell? ⟨w.heap.size, 2, none⟩ := World.cell?_of_block (by rw [hW])
    rw [h4, h5]
    simp
  have HALL := Lib.hid hall
  have hB : ∀ (o : Obj) (m : Nat), Below base w ((w.alloc o).drewN m) := fun o m => Below.drewN_ ((Below.refl _ _).alloc hb _) _
  have HB := Lib.hid hB
  clear hB hall hrn hr hm hx hN hnum f2 f3 f4 hbase
  go_enter Tryz.func198, Tryz.ntmps198
  go_wp2_with fail
  go_quiet ((go_at_call 220; exact Calls.quiet_of_same (HNUM.out _)))
  go_wp2_with fail
  refine (HRN.out _).mono ?_
  rintro e _ ⟨rfl, rfl⟩
  go_wp2_with fail
  have HW := Lib.hid (HB.out (.cells #[.int .u8 xv, .int .i64 xb, .int .i64 xs, .int .i64 xl, .int .i64 xm, .bool true] 256) nq)
  have hc2 : ((w.alloc (.cells #[.int .u8 xv, .int .i64 xb, .int .i64 xs, .int .i64 xl, .int .i64 xm, .bool true] 256)).drewN nq).cell? ⟨w.heap.size, 2, none⟩ = some (.int .i64 xs) := by simp
  have hall := fun W (h : W.heap = ((w.alloc (.cells #[.int .u8 xv, .int .i64 xb, .int .i64 xs, .int .i64 xl, .int .i64 xm, .bool true] 256)).drewN nq).heap) => HALL.out 0 W h
  have HALL2 := Lib.hid hall
  clear hall HALL HB
  generalize ((w.alloc (.cells #[.int .u8 xv, .int .i64 xb, .int .i64 xs, .int .i64 xl, .int .i64 xm, .bool true] 256)).drewN nq) = W at *
  clear hl e1 e2 hb0 hx2 hge hge' g1 g2 g3 g4 f1 hx0 hx1 hsz hl0
  have HO := Lib.hid ho
  clear ho HNUM HRN ag hb r0 r1
  go_region_held3 (fun w' => w'.cell? ⟨w.heap.size, 2, none⟩ = some (.int .i64 xs)) (first | assumption | go_keep)
    (first | (go_at_call 222; refine (HALL2.out _ (by rfl)).mono ?_; rintro e w2 ⟨v2, rfl, ho2, hb2, hc3⟩))
  go_wp2_with fail
  go_ret2
  exact ⟨_, rfl, ho2, HW.out.drew.trans hb2⟩
end
end Go.Proofs.YthmdaejlopjjoaaGreatDoor
