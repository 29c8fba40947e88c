/-
  Plain mathematics of lex: what stands between tokens; literals' ends. No program.
  lex: letters, pieces, runs.
  lex: the lengths of lines and literals; what is passed between tokens.
  lex: identifiers, signs.
-/
import Derived.Test.YthmdaejlopjjoaaGreatDoorKyA
import Derived.Lib.Strings
import Derived.Lib.Index
import Derived.Lib.IndexMore
import Derived.Lib.Bytealg
import Derived.Deep.QuietTactic
import Derived.BigQuiet
import Derived.StillTailTactics
import Derived.Deep.DeepCutAuto
import Derived.Deep.RegionHeld3
import Derived.Outline
import Derived.Deep.CutBlock
import Derived.Deep.LoopGhost
import Derived.Deep.RegionWith
namespace Go.Proofs.YthmdaejlopjjoaaGreatDoor
section
set_option linter.unusedVariables false
set_option linter.unusedSimpArgs false

def blB (c : UInt8) : Bool := c == 32 || c == 9 || c == 13 || c == 10
theorem bl_index (c : UInt8) : decide (0 ≤ Lib.indexByte [32, 9, 13, 10] c) = blB c := by
  have : (decide (0 ≤ Lib.indexByte [32, 9, 13, 10] c) == blB c) = true := fin8 (p := fun c => decide (0 ≤ Lib.indexByte [32, 9, 13, 10] c) == blB c) (by decide +kernel) c
  simpa using this
/-- How many bytes there are ahead of the first line feed. -/
def lnL : List UInt8 → Nat
  | [] => 0
  | c :: r => if c = 10 then 0 else lnL r + 1
theorem lnL_le : ∀ l : List UInt8, lnL l ≤ l.length
  | [] => Nat.le_refl _
  | c :: r => by have := lnL_le r; rw [lnL]; split <;> simp <;> omega
theorem lnL_index : ∀ l : List UInt8, (if Lib.indexByte l 10 < 0 then (l.length : Int) else Lib.indexByte l 10) = (lnL l : Int)
  | [] => rfl
  | c :: r => by
    have ih := lnL_index r
    have hge := Lib.indexByte_ge r 10
    have hv : Lib.indexByte (c :: r) 10 = if c = 10 then 0 else if Lib.indexByte r 10 = -1 then -1 else Lib.indexByte r 10 + 1 := by
      rw [Lib.indexByte]
      simp only [beq_iff_eq]
    rw [hv, lnL]
    generalize Lib.indexByte r 10 = x at *
    simp only [List.length_cons]
    by_cases h : c = 10
    · simp only [if_pos h]
      rw [if_neg (by omega)]
      rfl
    · simp only [if_neg h]
      by_cases h1 : x = -1
      · rw [if_pos (show x < 0 by omega)] at ih
        rw [if_pos h1, if_pos (by omega)]
        omega
      · rw [if_neg (show ¬ x < 0 by omega)] at ih
        rw [if_neg h1, if_neg (by omega)]
        omega
/-- What stands between tokens, and is it closed. -/
def skF : Nat → List UInt8 → Nat × Bool
  | 0, _ => (0, true)
  | k + 1, [] => (0, true)
  | k + 1, c :: r =>
    if blB c then ((skF k r).1 + 1, (skF k r).2)
    else if Lib.hasPrefix (c :: r) [47, 47] then ((skF k ((c :: r).drop (lnL (c :: r)))).1 + lnL (c :: r), (skF k ((c :: r).drop (lnL (c :: r)))).2)
    else if Lib.hasPrefix (c :: r) [47, 42] then
      (if Lib.index ((c :: r).drop 2) [42, 47] < 0 then (0, false)
       else ((skF k ((c :: r).drop (4 + (Lib.index ((c :: r).drop 2) [42, 47]).toNat))).1 + (4 + (Lib.index ((c :: r).drop 2) [42, 47]).toNat), (skF k ((c :: r).drop (4 + (Lib.index ((c :: r).drop 2) [42, 47]).toNat))).2))
    else (0, true)
theorem pre_head {c : UInt8} {r : List UInt8} {a b : UInt8} (h : Lib.hasPrefix (c :: r) [a, b] = true) : ∃ r', c = a ∧ r = b :: r' := by
  unfold Lib.hasPrefix at h
  rcases r with _ | ⟨d, r'⟩
  · simp [List.isPrefixOf] at h
  · simp [List.isPrefixOf] at h
    exact ⟨r', h.1.symm, by rw [h.2]⟩
theorem lnL_two {c : UInt8} {r : List UInt8} (h : Lib.hasPrefix (c :: r) [47, 47] = true) : 2 ≤ lnL (c :: r) := by
  obtain ⟨r', rfl, rfl⟩ := pre_head h
  rw [lnL, if_neg (by decide), lnL, if_neg (by decide)]
  omega
theorem skF_fuel : ∀ (k k' : Nat) (l : List UInt8), l.length ≤ k → l.length ≤ k' → skF k l = skF k' l
  | 0, k', l, h, _ => by
    obtain rfl : l = [] := List.eq_nil_of_length_eq_zero (by omega)
    cases k' <;> rfl
  | k + 1, 0, l, _, h => by
    obtain rfl : l = [] := List.eq_nil_of_length_eq_zero (by omega)
    rfl
  | k + 1, k' + 1, [], _, _ => rfl
  | k + 1, k' + 1, c :: r, h, h' => by
    have e1 := skF_fuel k k' r (by simp at h; omega) (by simp at h'; omega)
    rw [skF, skF, e1]
    by_cases h1 : blB c = true
    · rw [if_pos h1, if_pos h1]
    · rw [if_neg h1, if_neg h1]
      by_cases h2 : Lib.hasPrefix (c :: r) [47, 47] = true
      · have := lnL_two h2
        rw [if_pos h2, if_pos h2, skF_fuel k k' ((c :: r).drop (lnL (c :: r))) (by simp at h ⊢; omega) (by simp at h' ⊢; omega)]
      · rw [if_neg h2, if_neg h2, skF_fuel k k' ((c :: r).drop (4 + (Lib.index ((c :: r).drop 2) [42, 47]).toNat)) (by simp at h ⊢; omega) (by simp at h' ⊢; omega)]
def skL (l : List UInt8) : Nat × Bool := skF l.length l
theorem skL_nil : skL [] = (0, true) := rfl
theorem skL_blank {c : UInt8} {r : List UInt8} (h : blB c = true) : skL (c :: r) = ((skL r).1 + 1, (skL r).2) := by
  unfold skL
  rw [List.length_cons, skF, if_pos h]
theorem skL_line {c : UInt8} {r : List UInt8} (h0 : blB c = false) (h : Lib.hasPrefix (c :: r) [47, 47] = true) : skL (c :: r) = ((skL ((c :: r).drop (lnL (c :: r)))).1 + lnL (c :: r), (skL ((c :: r).drop (lnL (c :: r)))).2) := by
  have h2 := lnL_two h
  unfold skL
  rw [List.length_cons, skF, if_neg (by simp [h0]), if_pos h, skF_fuel r.length ((c :: r).drop (lnL (c :: r))).length _ (by simp; omega) (Nat.le_refl _)]
theorem skL_open {c : UInt8} {r : List UInt8} (h0 : blB c = false) (h1 : Lib.hasPrefix (c :: r) [47, 47] = false) (h : Lib.hasPrefix (c :: r) [47, 42] = true) (hi : Lib.index ((c :: r).drop 2) [42, 47] < 0) : skL (c :: r) = (0, false) := by
  unfold skL
  rw [List.length_cons, skF, if_neg (by simp [h0]), if_neg (by simp [h1]), if_pos h, if_pos hi]
theorem skL_remark {c : UInt8} {r : List UInt8} {i : Nat} (h0 : blB c = false) (h1 : Lib.hasPrefix (c :: r) [47, 47] = false) (h : Lib.hasPrefix (c :: r) [47, 42] = true) (hi : Lib.index ((c :: r).drop 2) [42, 47] = i) :
    skL (c :: r) = ((skL ((c :: r).drop (4 + i))).1 + (4 + i), (skL ((c :: r).drop (4 + i))).2) := by
  unfold skL
  rw [List.length_cons, skF, if_neg (by simp [h0]), if_neg (by simp [h1]), if_pos h, if_neg (by omega), hi, Int.toNat_natCast, skF_fuel r.length ((c :: r).drop (4 + i)).length _ (by simp; omega) (Nat.le_refl _)]
theorem skL_stop {c : UInt8} {r : List UInt8} (h0 : blB c = false) (h1 : Lib.hasPrefix (c :: r) [47, 47] = false) (h : Lib.hasPrefix (c :: r) [47, 42] = false) : skL (c :: r) = (0, true) := by
  unfold skL
  rw [List.length_cons, skF, if_neg (by simp [h0]), if_neg (by simp [h1]), if_neg (by simp [h])]
theorem remark_room {c : UInt8} {r : List UInt8} {i : Nat} (hi : Lib.index ((c :: r).drop 2) [42, 47] = i) : 4 + i ≤ (c :: r).length := by
  have := Lib.index_room ((c :: r).drop 2) [42, 47] (by omega)
  simp only [List.length_cons, List.length_nil] at this ⊢
  rw [hi] at this
  have h2 : ((c :: r).drop 2).length = r.length + 1 - 2 := by simp
  omega
theorem skL_le : ∀ (k : Nat) (l : List UInt8), (skF k l).1 ≤ l.length
  | 0, _ => by simp [skF]
  | k + 1, [] => by simp [skF]
  | k + 1, c :: r => by
    rw [skF]
    split
    · have := skL_le k r; simp; omega
    · split
      · have := skL_le k ((c :: r).drop (lnL (c :: r)))
        have h2 := lnL_le (c :: r)
        rw [List.length_drop] at this
        simp only; omega
      · split
        · split
          · simp
          · rename_i h3
            obtain ⟨i, hi⟩ := Int.eq_ofNat_of_zero_le (show 0 ≤ Lib.index ((c :: r).drop 2) [42, 47] by omega)
            have h4 := remark_room hi
            have := skL_le k ((c :: r).drop (4 + (Lib.index ((c :: r).drop 2) [42, 47]).toNat))
            rw [hi, Int.toNat_natCast, List.length_drop] at this
            simp only [hi, Int.toNat_natCast]
            omega
        · simp
/-- The end of a literal that begins with q, its places counted from the first quote; 0: it has none. -/
def liF (q : UInt8) : Nat → Nat → List UInt8 → Nat
  | 0, _, _ => 0
  | _ + 1, _, [] => 0
  | k + 1, p, c :: r => if c = 10 then 0 else if c = q then p + 1 else if c = 92 then liF q k (p + 2) (r.drop 1) else liF q k (p + 1) r
theorem liF_fuel (q : UInt8) : ∀ (k k' p : Nat) (l : List UInt8), l.length ≤ k → l.length ≤ k' → liF q k p l = liF q k' p l
  | 0, k', p, l, h, _ => by
    obtain rfl : l = [] := List.eq_nil_of_length_eq_zero (by omega)
    cases k' <;> rfl
  | k + 1, 0, p, l, _, h => by
    obtain rfl : l = [] := List.eq_nil_of_length_eq_zero (by omega)
    rfl
  | k + 1, k' + 1, p, [], _, _ => rfl
  | k + 1, k' + 1, p, c :: r, h, h' => by
    simp only [List.length_cons] at h h'
    rw [liF, liF, liF_fuel q k k' (p + 2) (r.drop 1) (by simp; omega) (by simp; omega), liF_fuel q k k' (p + 1) r (by omega) (by omega)]
def liP (q : UInt8) (p : Nat) (l : List UInt8) : Nat := liF q l.length p l
theorem liP_nil (q : UInt8) (p : Nat) : liP q p [] = 0 := rfl
theorem liP_cons (q : UInt8) (p : Nat) (c : UInt8) (r : List UInt8) : liP q p (c :: r) = if c = 10 then 0 else if c = q then p + 1 else if c = 92 then liP q (p + 2) (r.drop 1) else liP q (p + 1) r := by
  unfold liP
  rw [List.length_cons, liF, liF_fuel q r.length (r.drop 1).length _ _ (by simp) (Nat.le_refl _)]
/-- The length of a literal with which a text begins; 0: it does not end in its line. -/
def liL (l : List UInt8) : Nat := match l with | [] => 0 | q :: r => liP q 1 r
theorem liF_le (q : UInt8) : ∀ (k p : Nat) (l : List UInt8), liF q k p l = 0 ∨ (p + 1 ≤ liF q k p l ∧ liF q k p l ≤ p + l.length)
  | 0, p, l => .inl rfl
  | k + 1, p, [] => .inl rfl
  | k + 1, p, c :: r => by
    rw [liF]
    split
    · exact .inl rfl
    · split
      · right; simp
      · split
        · rcases liF_le q k (p + 2) (r.drop 1) with h | ⟨h1, h2⟩
          · exact .inl h
          · right
            simp only [List.length_drop, List.length_cons] at h2 ⊢
            rcases r with _ | ⟨d, r'⟩
            · simp at h1 h2; omega
            · simp at h1 h2 ⊢; omega
        · rcases liF_le q k (p + 1) r with h | ⟨h1, h2⟩
          · exact .inl h
          · right; simp only [List.length_cons]; omega
end
section
open Go.RowKit
set_option linter.unusedVariables false
set_option linter.unusedSimpArgs false

theorem Below.drewN_ {B : Nat} {a w : World} (h : Below B a w) (m : Nat) : Below B a (w.drewN m) := ⟨h.os, h.tape, h.output, h.size, h.block⟩
/-- May an identifier begin with it? -/
def ltZ (c : Int) : Bool := loZ c || upZ c || (c == 95)
/-- A letter, a digit, or an underscore. -/
def wdZ (c : Int) : Bool := ltZ c || dgZ c
theorem startsIdent_any (c : Int) (w : World) : Calls Tryz.prog 166 #[.int .u8 c] w fun e w' => e = .returned (.bool (ltZ c)) ∧ w = w' := by
  have hz : ltZ c = ((decide (97 ≤ c) && decide (c ≤ 122)) || (decide (65 ≤ c) && decide (c ≤ 90)) || (c == 95)) := rfl
  rcases (show (97 ≤ c ∧ c ≤ 122) ∨ (65 ≤ c ∧ c ≤ 90) ∨ c = 95 ∨ c < 65 ∨ (90 < c ∧ c < 95) ∨ c = 96 ∨ 122 < c by omega) with ⟨h, h'⟩ | ⟨h, h'⟩ | h | h | ⟨h, h'⟩ | h | h
  · obtain hb : ltZ c = true := by rw [hz]; simp [h, h']
    rw [hb]
    clear hz hb
    go_enter Tryz.func166, Tryz.ntmps166
    go_wp2_with fail
    go_ret
    exact ⟨rfl, rfl⟩
  · obtain hb : ltZ c = true := by rw [hz]; simp [h, h']
    rw [hb]
    clear hz hb
    go_enter Tryz.func166, Tryz.ntmps166
    go_wp2_with fail
    go_ret
    exact ⟨rfl, rfl⟩
  · subst h
    clear hz
    go_enter Tryz.func166, Tryz.ntmps166
    go_wp2_with fail
    go_ret
    exact ⟨rfl, rfl⟩
  all_goals
    have hb : ltZ c = false := by rw [hz]; simp; omega
    have hq : (c == 95) = false := by simp; omega
    rw [hb]
    clear hz hb
    go_enter Tryz.func166, Tryz.ntmps166
    go_wp2_with fail
    go_ret
    refine ⟨?_, rfl⟩
    first | rfl | (simp; omega)
theorem lisDigit_any (c : Int) (w : World) : Calls Tryz.prog 169 #[.int .u8 c] w fun e w' => e = .returned (.bool (dgZ c)) ∧ w = w' := by
  by_cases h1 : 48 ≤ c <;> by_cases h2 : c ≤ 57
  all_goals
    go_enter Tryz.func169, Tryz.ntmps169
    go_wp2_with fail
    go_ret
    exact ⟨by simp [dgZ, h1, h2], rfl⟩
theorem clone_any (s : ByteArray) (w : World) (hlim : s.size ≤ 1000000) : Calls Tryz.prog 81 #[.string s] w fun e w' => e = .returned (.string s) ∧ Below w.heap.size w w' := by
  have H := Lib.hid (Tryz.stringslite_Clone s w (by omega))
  go_enter Tryz.func81, Tryz.ntmps81
  go_wp2_with fail
  refine (H.out).mono ?_
  rintro e w1 ⟨rfl, hb⟩
  have HB := Lib.hid hb
  clear hb
  go_wp2_with fail
  go_ret
  exact ⟨rfl, HB.out⟩

/-- The scanner's state. -/
def Scn (w : World) (b : Nat) (s : ByteArray) (p : Nat) : Prop := Blk w b 146 #[.string s, .int .i64 p]
theorem Scn.c0 {w : World} {b p : Nat} {s : ByteArray} (h : Scn w b s p) : w.cell? ⟨b, 0, none⟩ = some (.string s) := h.cell 0
theorem Scn.c1 {w : World} {b p : Nat} {s : ByteArray} (h : Scn w b s p) : w.cell? ⟨b, 1, none⟩ = some (.int .i64 p) := h.cell 1

set_option maxRecDepth 100000 in
set_option maxHeartbeats 1000000 in
theorem piece_any {w : World} {b p : Nat} {s : ByteArray} (n : Nat) (h : Scn w b s p) (hn : p + n ≤ s.size) (hs : s.size ≤ 1000000) :
    Calls Tryz.prog 173 #[.pointer (some ⟨b, 0, none⟩), .int .i64 n] w fun e w' => e = .returned (.string (s.extract p (p + n))) ∧ Below w.heap.size w w' := by
  have h0 := h.c0
  have h1 := h.c1
  have n0 : (0 : Int) ≤ (n : Int) := by omega
  have p0 : (0 : Int) ≤ (p : Int) := by omega
  have e1 : IntKind.i64.wrap ((p : Int) + (n : Int)) = (p : Int) + (n : Int) := IntWalk.i64_in _ (by omega)
  have e2 : (0 : Int) ≤ (p : Int) + (n : Int) := by omega
  have e3 : ((p : Int) + (n : Int)).toNat = p + n := by omega
  have e4 : (p : Int) ≤ (p : Int) + (n : Int) := by omega
  have e5 : (p : Int) + (n : Int) ≤ (s.size : Int) := by omega
  have hcl := fun W => clone_any (s.extract p (p + n)) W (by simp [ByteArray.size_extract]; omega)
  have HCL := Lib.hid hcl
  clear hcl
  go_enter Tryz.func173, Tryz.ntmps173
  go_wp2_with fail
  go_still_tail 15, (by kernel_rfl)
  change wpList _ _ _ _ _ w.drew
  go_wp2_with fail
  refine (HCL.out _).mono ?_
  rintro e w1 ⟨rfl, hb⟩
  have HB := Lib.hid (show Below w.heap.size w w1 from (Below.refl _ _).drew.trans hb)
  clear hb
  go_wp2_with fail
  go_ret
  exact ⟨rfl, HB.out⟩

def runL (l : List UInt8) : List UInt8 := l.takeWhile fun c => wdZ c.toNat
theorem runL_cons (c : UInt8) (r : List UInt8) : runL (c :: r) = if wdZ c.toNat then c :: runL r else [] := by
  unfold runL
  rw [List.takeWhile_cons]
theorem runL_len (l : List UInt8) : (runL l).length ≤ l.length := (List.takeWhile_prefix _).length_le
set_option maxRecDepth 100000 in
set_option maxHeartbeats 1000000 in
theorem run_any {w : World} {b p : Nat} {s : ByteArray} (h : Scn w b s p) (hp : p ≤ s.size) (hs : s.size ≤ 1000000) :
    Calls Tryz.prog 167 #[.pointer (some ⟨b, 0, none⟩)] w fun e w' => e = .returned (.string (s.extract p (p + (runL (s.data.toList.drop p)).length))) ∧ Below w.heap.size w w' := by
  have h0 := h.c0
  have h1 := h.c1
  have H := Lib.hid h
  have p0 : (0 : Int) ≤ (p : Int) := by omega
  have p1 : (p : Int) ≤ (s.size : Int) := by omega
  obtain ⟨t, ht⟩ : ∃ t : ByteArray, s.extract p s.size = t := ⟨_, rfl⟩
  have htl : t.data.toList = s.data.toList.drop p := by rw [← ht]; exact Lib.extract_to_end s p
  have hts : t.size = s.size - p := by rw [← ht]; simp [ByteArray.size_extract]
  rw [← htl]
  have HTS := Lib.hid hts
  have htb : t.size ≤ 1000000 := by omega
  obtain ⟨N, hN⟩ : ∃ N, (runL t.data.toList).length = N := ⟨_, rfl⟩
  have hNl : N ≤ t.size := by rw [← hN]; have := runL_len t.data.toList; simpa using this
  rw [hN]
  have hst : 0 + (runL (t.data.toList.drop 0)).length = N := by simpa using hN
  have HST := Lib.hid hst
  have hpc := fun W (hW : Scn W b s p) => piece_any (w := W) N hW (by omega) hs
  have HPC := Lib.hid hpc
  clear hN hst htl hts h hpc
  go_enter Tryz.func167, Tryz.ntmps167
  go_wp2_with fail
  go_quiet (fail)
  clear ht
  go_wp2_with fail
  go_loop [3] (fun v => ∃ k : Nat, v = .int .i64 k ∧ k ≤ t.size ∧ k + (runL (t.data.toList.drop k)).length = N) (fun v => t.size - (intOf v).toNat)
  case atStart => exact ⟨0, rfl, by omega, HST.out⟩
  case round =>
    obtain ⟨k, rfl, hk, hrel⟩ := hrel
    have hk0 : (0 : Int) ≤ (k : Int) := by omega
    by_cases hlt : k < t.size
    · have hlt' : (k : Int) < (t.size : Int) := by omega
      rw [drop_at t k hlt, runL_cons] at hrel
      generalize hx : t[k] = c at *
      have hwz : wdZ c.toNat = (ltZ c.toNat || dgZ c.toNat) := rfl
      rw [hwz] at hrel
      have c1 := fun W => startsIdent_any (c.toNat : Nat) W
      have c2 := fun W => lisDigit_any (c.toNat : Nat) W
      generalize ltZ c.toNat = L at *
      generalize dgZ c.toNat = D at *
      have C1 := Lib.hid c1
      have C2 := Lib.hid c2
      clear c1 c2 hwz
      cases L
      · cases D
        · have hN : k = N := by simpa using hrel
          subst hN
          clear hrel
          go_wp2_with fail
          refine (C1.out _).mono ?_
          rintro e _ ⟨rfl, rfl⟩
          go_wp2_with fail
          refine (C2.out _).mono ?_
          rintro e _ ⟨rfl, rfl⟩
          go_wp2_with fail
          refine (HPC.out (w.drewN nq) H.out).mono ?_
          rintro e w2 ⟨rfl, hb2⟩
          have HB := Lib.hid ((Below.drewN_ (Below.refl w.heap.size w) nq).trans hb2)
          clear hb2
          go_wp2_with fail
          go_ret
          exact ⟨rfl, HB.out⟩
        · rw [if_pos (by rfl)] at hrel
          have HN := Lib.hid (show k + 1 + (runL (t.data.toList.drop (k + 1))).length = N by simp only [List.length_cons] at hrel; omega)
          clear hrel
          go_wp2_with fail
          refine (C1.out _).mono ?_
          rintro e _ ⟨rfl, rfl⟩
          go_wp2_with fail
          refine (C2.out _).mono ?_
          rintro e _ ⟨rfl, rfl⟩
          go_wp2_with fail
          go_round
          case rel => exact ⟨k + 1, by go_num, by omega, HN.out⟩
          case measure => simp [intOf]; omega
      · rw [if_pos (by rfl)] at hrel
        have HN := Lib.hid (show k + 1 + (runL (t.data.toList.drop (k + 1))).length = N by simp only [List.length_cons] at hrel; omega)
        clear hrel
        go_wp2_with fail
        refine (C1.out _).mono ?_
        rintro e _ ⟨rfl, rfl⟩
        go_wp2_with fail
        go_round
        case rel => exact ⟨k + 1, by go_num, by omega, HN.out⟩
        case measure => simp [intOf]; omega
    · have hlt' : ¬ (k : Int) < (t.size : Int) := by omega
      rw [List.drop_eq_nil_of_le (by simp; omega)] at hrel
      have hN : k = N := by simpa [runL] using hrel
      subst hN
      clear hrel
      go_wp2_with fail
      refine (HPC.out (w.drewN nq) H.out).mono ?_
      rintro e w2 ⟨rfl, hb2⟩
      have HB := Lib.hid ((Below.drewN_ (Below.refl w.heap.size w) nq).trans hb2)
      clear hb2
      go_wp2_with fail
      go_ret
      exact ⟨rfl, HB.out⟩
end
section
open Go.RowKit
set_option linter.unusedVariables false
set_option linter.unusedSimpArgs false

theorem ibyte_any (s : ByteArray) (c : UInt8) (w : World) : Calls Tryz.prog 142 #[.string s, .int .u8 (c.toNat : Nat)] w fun e w' => e = .returned (.int .i64 (Lib.indexByte s.data.toList c)) ∧ w = w' :=
  (Tryz.strings_IndexByte s (c.toNat : Nat) w).mono fun e w' ⟨h1, h2⟩ => ⟨by rw [h1]; simp, h2.symm⟩
theorem hpre_any (s p : ByteArray) (w : World) : Calls Tryz.prog 58 #[.string s, .string p] w fun e w' => e = .returned (.bool (Lib.hasPrefix s.data.toList p.data.toList)) ∧ w = w' :=
  (Tryz.strings_HasPrefix s p w).mono fun e w' ⟨h1, h2⟩ => ⟨h1, h2.symm⟩
theorem sindex_any (s sub : ByteArray) (m : Int) (w : World) (hs : s.size ≤ 1000000) (hm : w.cell? ⟨0, 0, none⟩ = some (.int .i64 m)) : Calls Tryz.prog 144 #[.string s, .string sub] w fun e w' => e = .returned (.int .i64 (Lib.index s.data.toList sub.data.toList)) ∧ w = w' :=
  (Tryz.strings_Index s sub m w (by omega) hm).mono fun e w' ⟨h1, h2⟩ => ⟨h1, h2.symm⟩

set_option maxHeartbeats 1000000 in
theorem lineLen_any (s : ByteArray) (w : World) : Calls Tryz.prog 143 #[.string s] w fun e w' => e = .returned (.int .i64 (lnL s.data.toList : Nat)) ∧ w = w' := by
  have h := fun W => ibyte_any s 10 W
  have hi := lnL_index s.data.toList
  have hl : s.data.toList.length = s.size := by simp
  rw [hl] at hi
  generalize Lib.indexByte s.data.toList 10 = x at *
  generalize lnL s.data.toList = N at *
  have H := Lib.hid h
  have HI := Lib.hid hi
  clear h hi hl
  by_cases hx : x < 0
  · have hx' : ¬ 0 ≤ x := by omega
    go_enter Tryz.func143, Tryz.ntmps143
    go_wp2_with fail
    refine (H.out _).mono ?_
    rintro e _ ⟨rfl, rfl⟩
    go_wp2_with fail
    go_ret
    have h2 := HI.out
    rw [if_pos hx] at h2
    exact ⟨ret_int h2, rfl⟩
  · have hx' : 0 ≤ x := by omega
    go_enter Tryz.func143, Tryz.ntmps143
    go_wp2_with fail
    refine (H.out _).mono ?_
    rintro e _ ⟨rfl, rfl⟩
    go_wp2_with fail
    go_ret
    have h2 := HI.out
    rw [if_neg (by omega)] at h2
    exact ⟨ret_int h2, rfl⟩

set_option maxRecDepth 100000 in
set_option maxHeartbeats 1000000 in
theorem litLen_any (s : ByteArray) (w : World) (h0 : 0 < s.size) (hs : s.size ≤ 1000000) : Calls Tryz.prog 171 #[.string s] w fun e w' => e = .returned (.int .i64 (liL s.data.toList : Nat)) ∧ w = w' := by
  have hd := drop_at s 0 h0
  rw [List.drop_zero] at hd
  obtain ⟨q, hq⟩ : ∃ q, s[0] = q := ⟨_, rfl⟩
  have hst : liP q 1 (s.data.toList.drop 1) = liL s.data.toList := by
    conv => rhs; rw [hd]
    rw [hq]
    rfl
  generalize liL s.data.toList = N at *
  have HST := Lib.hid hst
  have hq8 := q.toNat_lt
  clear hst hd
  go_enter Tryz.func171, Tryz.ntmps171
  go_wp2_with fail
  go_loop [3] (fun v => ∃ k : Nat, v = .int .i64 k ∧ k ≤ s.size + 1 ∧ liP q k (s.data.toList.drop k) = N) (fun v => s.size + 1 - (intOf v).toNat)
  case atStart => exact ⟨1, rfl, by omega, HST.out⟩
  case round =>
    obtain ⟨k, rfl, hk, hrel⟩ := hrel
    have hk0 : (0 : Int) ≤ (k : Int) := by omega
    by_cases hlt : k < s.size
    · have hlt' : (k : Int) < (s.size : Int) := by omega
      rw [drop_at s k hlt, liP_cons] at hrel
      generalize hx : s[k] = c at *
      have hc8 := c.toNat_lt
      by_cases h10 : c = 10
      · rw [if_pos h10] at hrel
        have e1 : ((c.toNat : Int) != 10) = false := by rw [h10]; rfl
        have HN := Lib.hid hrel
        clear hrel h10
        go_wp2_with fail
        go_ret
        exact ⟨ret_int (by have := HN.out; omega), rfl⟩
      · have e1 : ((c.toNat : Int) != 10) = true := by simp only [bne_iff_ne, ne_eq]; intro e; exact h10 (UInt8.toNat_inj.1 (by show c.toNat = 10; omega))
        rw [if_neg h10] at hrel
        by_cases hcq : c = q
        · rw [if_pos hcq] at hrel
          have e2 : ((c.toNat : Int) == (q.toNat : Int)) = true := by rw [hcq]; simp
          have HN := Lib.hid hrel
          clear hrel h10 hcq
          go_wp2_with fail
          go_ret
          exact ⟨ret_int (by have := HN.out; omega), rfl⟩
        · rw [if_neg hcq] at hrel
          have e2 : ((c.toNat : Int) == (q.toNat : Int)) = false := by simp only [beq_eq_false_iff_ne, ne_eq]; intro e; exact hcq (UInt8.toNat_inj.1 (by omega))
          by_cases h92 : c = 92
          · rw [if_pos h92, List.drop_drop] at hrel
            have e3 : ((c.toNat : Int) == 92) = true := by rw [h92]; rfl
            have HN := Lib.hid hrel
            clear hrel h10 hcq h92
            go_wp2_with fail
            go_round
            case rel => exact ⟨k + 2, by go_num, by omega, HN.out⟩
            case measure => simp [intOf]; omega
          · rw [if_neg h92] at hrel
            have e3 : ((c.toNat : Int) == 92) = false := by simp only [beq_eq_false_iff_ne, ne_eq]; intro e; exact h92 (UInt8.toNat_inj.1 (by show c.toNat = 92; omega))
            have HN := Lib.hid hrel
            clear hrel h10 hcq h92
            go_wp2_with fail
            go_round
            case rel => exact ⟨k + 1, by go_num, by omega, HN.out⟩
            case measure => simp [intOf]; omega
    · have hlt' : ¬ (k : Int) < (s.size : Int) := by omega
      rw [List.drop_eq_nil_of_le (by simp; omega), liP_nil] at hrel
      have HN := Lib.hid hrel
      clear hrel
      go_wp2_with fail
      go_ret
      exact ⟨ret_int (by have := HN.out; omega), rfl⟩

theorem Scn.set_ {w : World} {b p : Nat} {s : ByteArray} (h : Scn w b s p) (n : Nat) : Scn (w.setCell ⟨b, 1, none⟩ (.int .i64 n)) b s n := Blk.set_ h 1 (.int .i64 n)
theorem grow_set {w wr : World} {b i : Nat} (h : w.grownBy wr (some b)) (u : Value) : w.grownBy (wr.setCell ⟨b, i, none⟩ u) (some b) :=
  ⟨h.os, h.tape, h.output, by rw [World.size_setCell]; exact h.size, fun j hj hne => (Below.heap_setCell wr ⟨b, i, none⟩ u j (fun e => hne (by rw [e]))).trans (h.block j hj hne)⟩
theorem grow_drewN {w wr : World} {row : Option Nat} (h : w.grownBy wr row) (n : Nat) : w.grownBy (wr.drewN n) row := ⟨h.os, h.tape, h.output, h.size, h.block⟩
/-- What the scanner's pass answers and leaves. -/
def SkP (w : World) (b : Nat) (s : ByteArray) (P : Nat) (O : Bool) (e : Ending) (w' : World) : Prop := e = .returned (.int .i64 (if O then 0 else 30)) ∧ Scn w' b s P ∧ w.grownBy w' (some b)

set_option maxRecDepth 100000 in
set_option maxHeartbeats 1000000 in
theorem skip_any {w : World} {b p : Nat} {s : ByteArray} (m : Int) (h : Scn w b s p) (hp : p ≤ s.size) (hs : s.size ≤ 1000000) (hb0 : b ≠ 0) (hm : w.cell? ⟨0, 0, none⟩ = some (.int .i64 m)) :
    Calls Tryz.prog 96 #[.pointer (some ⟨b, 0, none⟩)] w (SkP w b s (p + (skL (s.data.toList.drop p)).1) (skL (s.data.toList.drop p)).2) := by
  obtain ⟨P, hP⟩ : ∃ P, p + (skL (s.data.toList.drop p)).1 = P := ⟨_, rfl⟩
  obtain ⟨O, hO⟩ : ∃ O, (skL (s.data.toList.drop p)).2 = O := ⟨_, rfl⟩
  rw [hP, hO]
  have hM : ∀ W, w.grownBy W (some b) → W.cell? ⟨0, 0, none⟩ = some (.int .i64 m) := fun W h => h.cell hm (by simp; omega)
  have HM := Lib.hid hM
  have HP := Lib.hid hP
  have HO := Lib.hid hO
  have HSC := Lib.hid h
  clear hP hO hM hm h
  go_enter Tryz.func96, Tryz.ntmps96
  go_wp2_with fail
  go_loopg [3] (s.size - p) (fun g v wr => ∃ p' : Nat, p' ≤ s.size ∧ g = s.size - p' ∧ Scn wr b s p' ∧ p' + (skL (s.data.toList.drop p')).1 = P ∧ (skL (s.data.toList.drop p')).2 = O ∧ w.grownBy wr (some b))
  case atStart => exact ⟨p, hp, rfl, HSC.out, HP.out, HO.out, World.grownBy.refl _ _⟩
  case round =>
    obtain ⟨p', hp', rfl, hsc, hP, hO, hg⟩ := hrel
    have HSC := Lib.hid hsc
    have HP := Lib.hid hP
    have HO := Lib.hid hO
    have HG := Lib.hid hg
    have c0 := hsc.c0
    have c1 := hsc.c1
    have p0 : (0 : Int) ≤ (p' : Int) := by omega
    clear hsc hP hO hg
    go_upto_region 1 with fail
    go_cut [14] (fun v wx => v = .bool (decide (p' < s.size)) ∧ Scn wx b s p' ∧ w.grownBy wx (some b))
    case first =>
      go_quiet (fail)
      go_wp2_with fail
      go_meet
      exact ⟨by first | rfl | simp, HSC.out, grow_drewN HG.out _⟩
    case rest =>
      obtain ⟨rfl, hsc, hg⟩ := hcut
      obtain ⟨w1, hw1⟩ : ∃ W, W = wc := ⟨_, rfl⟩
      subst hw1
      clear HSC HG c0 c1
      have HSC := Lib.hid hsc
      have HG := Lib.hid hg
      have c0 := hsc.c0
      have c1 := hsc.c1
      clear hsc hg
      by_cases hlt : p' < s.size
      · have hd : decide (p' < s.size) = true := decide_eq_true hlt
        rw [hd]
        have p1 : (p' : Int) ≤ (s.size : Int) := by omega
        obtain ⟨t, ht⟩ : ∃ t : ByteArray, s.extract p' s.size = t := ⟨_, rfl⟩
        have htl : t.data.toList = s.data.toList.drop p' := by rw [← ht]; exact Lib.extract_to_end s p'
        have hts : t.size = s.size - p' := by rw [← ht]; simp [ByteArray.size_extract]
        go_upto_region 2 with fail
        go_cut [3] (fun v wx => v = .string t ∧ Scn wx b s p' ∧ w.grownBy wx (some b))
        case first =>
          go_quiet (fail)
          go_wp2_with fail
          go_meet
          exact ⟨rfl, HSC.out, grow_drewN HG.out _⟩
        case rest =>
          obtain ⟨rfl, hsc, hg⟩ := hcut
          obtain ⟨w2, hw2⟩ : ∃ W, W = wc := ⟨_, rfl⟩
          subst hw2
          clear HSC HG c0 c1 ht hd
          have HSC := Lib.hid hsc
          have HG := Lib.hid hg
          have c0 := hsc.c0
          have c1 := hsc.c1
          have hfz : w2.frozen? ⟨b, 1, none⟩ = false := Blk.frozen hsc 1
          clear hsc hg
          have ht0 : 0 < t.size := by omega
          have hcons := drop_at t 0 ht0
          rw [List.drop_zero] at hcons
          generalize hx : t[0] = c at *
          obtain ⟨r, hr⟩ : ∃ r, t.data.toList.drop (0 + 1) = r := ⟨_, rfl⟩
          rw [hr] at hcons
          have hP := HP.out
          have hO := HO.out
          rw [← htl, hcons] at hP hO
          have hib := fun W => ibyte_any ⟨#[32, 9, 13, 10]⟩ c W
          have hbl := bl_index c
          have hpa := fun W => hpre_any t ⟨#[47, 47]⟩ W
          have hpb := fun W => hpre_any t ⟨#[47, 42]⟩ W
          rw [hcons] at hpa hpb
          have e1 : (⟨#[32, 9, 13, 10]⟩ : ByteArray).data.toList = [32, 9, 13, 10] := rfl
          rw [e1] at hib
          have e2 : (⟨#[47, 47]⟩ : ByteArray).data.toList = [47, 47] := rfl
          have e3 : (⟨#[47, 42]⟩ : ByteArray).data.toList = [47, 42] := rfl
          rw [e2] at hpa
          rw [e3] at hpb
          generalize Lib.indexByte [32, 9, 13, 10] c = x at *
          have HIB := Lib.hid hib
          have HPA := Lib.hid hpa
          have HPB := Lib.hid hpb
          have HCO := Lib.hid hcons
          have HTL := Lib.hid htl
          have HTS := Lib.hid hts
          have hrr : s.data.toList.drop p' = c :: r := by rw [← htl, hcons]
          have HRR := Lib.hid hrr
          clear hib hpa hpb hcons htl hts hr hrr e1 e2 e3
          cases hb : blB c
          · rw [hb] at hbl
            have hx0 : ¬ 0 ≤ x := by simpa using hbl
            clear hbl
            cases ha : Lib.hasPrefix (c :: r) [47, 47]
            · cases hc : Lib.hasPrefix (c :: r) [47, 42]
              · rw [skL_stop hb ha hc] at hP hO
                rw [ha] at HPA
                rw [hc] at HPB
                have HPN := Lib.hid hP
                have HON := Lib.hid hO
                clear hP hO ha hc hb
                go_wp2_with fail
                refine (HIB.out _).mono ?_
                rintro e _ ⟨rfl, rfl⟩
                go_wp2_with fail
                refine (HPA.out _).mono ?_
                rintro e _ ⟨rfl, rfl⟩
                go_wp2_with fail
                refine (HPB.out _).mono ?_
                rintro e _ ⟨rfl, rfl⟩
                go_wp2_with fail
                go_ret
                refine ⟨by rw [← HON.out]; rfl, ?_, HG.out⟩
                rw [← HPN.out]
                exact HSC.out
              · obtain ⟨r', hc1, hr1⟩ := pre_head hc
                have ht2 : 2 ≤ t.size := by
                  have h1 := HCO.out
                  have h2 : t.data.toList.length = t.size := by simp
                  rw [h1, hr1] at h2
                  simp only [List.length_cons] at h2
                  omega
                have ht2' : (2 : Int) ≤ (t.size : Int) := by omega
                obtain ⟨u, hu⟩ : ∃ u : ByteArray, t.extract 2 t.size = u := ⟨_, rfl⟩
                have hul : u.data.toList = (c :: r).drop 2 := by rw [← hu, Lib.extract_to_end t 2, HCO.out]
                have hus : u.size ≤ 1000000 := by have h3 := HTS.out; rw [← hu]; simp [ByteArray.size_extract]; omega
                have hix := fun W (hW : W.cell? ⟨0, 0, none⟩ = some (.int .i64 m)) => sindex_any u ⟨#[42, 47]⟩ m W hus hW
                have e4 : (⟨#[42, 47]⟩ : ByteArray).data.toList = [42, 47] := rfl
                rw [hul, e4] at hix
                have hge := Lib.index_ge ((c :: r).drop 2) [42, 47]
                rw [ha] at HPA
                rw [hc] at HPB
                by_cases hi : Lib.index ((c :: r).drop 2) [42, 47] < 0
                · rw [skL_open hb ha hc hi] at hP hO
                  have HPN := Lib.hid hP
                  have HON := Lib.hid hO
                  generalize Lib.index ((c :: r).drop 2) [42, 47] = y at *
                  have HIX := Lib.hid hix
                  clear hP hO ha hc hb hix hul hus e4 hge hr1 hc1
                  go_wp2_with fail
                  refine (HIB.out _).mono ?_
                  rintro e _ ⟨rfl, rfl⟩
                  go_wp2_with fail
                  refine (HPA.out _).mono ?_
                  rintro e _ ⟨rfl, rfl⟩
                  go_wp2_with fail
                  refine (HPB.out _).mono ?_
                  rintro e _ ⟨rfl, rfl⟩
                  go_wp2_with fail
                  refine (HIX.out _ (HM.out _ HG.out)).mono ?_
                  rintro e _ ⟨rfl, rfl⟩
                  go_wp2_with fail
                  go_ret
                  refine ⟨by rw [← HON.out]; rfl, ?_, HG.out⟩
                  rw [← HPN.out]
                  exact HSC.out
                · obtain ⟨y, hy⟩ := Int.eq_ofNat_of_zero_le (show 0 ≤ Lib.index ((c :: r).drop 2) [42, 47] by omega)
                  have hroom := remark_room hy
                  have hlen : (c :: r).length = s.size - p' := by rw [← HCO.out]; have := HTS.out; simpa using this
                  rw [skL_remark hb ha hc hy] at hP hO
                  rw [hy] at hix
                  have HPN := Lib.hid (show p' + (4 + y) + (skL (s.data.toList.drop (p' + (4 + y)))).1 = P by rw [← List.drop_drop, HRR.out]; simp only at hP ⊢; omega)
                  have HON := Lib.hid (show (skL (s.data.toList.drop (p' + (4 + y)))).2 = O by rw [← List.drop_drop, HRR.out]; exact hO)
                  have HIX := Lib.hid hix
                  have hroom2 : p' + (4 + y) ≤ s.size := by omega
                  clear hP hO ha hc hb hix hul hus e4 hge hr1 hc1 hi hy hroom hlen
                  go_wp2_with fail
                  refine (HIB.out _).mono ?_
                  rintro e _ ⟨rfl, rfl⟩
                  go_wp2_with fail
                  refine (HPA.out _).mono ?_
                  rintro e _ ⟨rfl, rfl⟩
                  go_wp2_with fail
                  refine (HPB.out _).mono ?_
                  rintro e _ ⟨rfl, rfl⟩
                  go_wp2_with fail
                  refine (HIX.out _ (HM.out _ HG.out)).mono ?_
                  rintro e _ ⟨rfl, rfl⟩
                  go_wp2_with fail
                  go_roundg (s.size - (p' + (4 + y)))
                  case measure => omega
                  case rel =>
                    have hcast : (p' : Int) + (2 + (y : Int) + 2) = ((p' + (4 + y) : Nat) : Int) := by omega
                    rw [hcast]
                    exact ⟨p' + (4 + y), hroom2, rfl, HSC.out.set_ (p' + (4 + y)), HPN.out, HON.out, grow_set HG.out _⟩
            · have hl2 := lnL_two ha
              have hll := lnL_le (c :: r)
              have hlen : (c :: r).length = s.size - p' := by rw [← HCO.out]; have := HTS.out; simpa using this
              have hln := fun W => lineLen_any t W
              rw [HCO.out] at hln
              rw [skL_line hb ha] at hP hO
              rw [ha] at HPA
              generalize lnL (c :: r) = N at *
              have HPN := Lib.hid (show p' + N + (skL (s.data.toList.drop (p' + N))).1 = P by rw [← List.drop_drop, HRR.out]; simp only at hP ⊢; omega)
              have HON := Lib.hid (show (skL (s.data.toList.drop (p' + N))).2 = O by rw [← List.drop_drop, HRR.out]; exact hO)
              have HLN := Lib.hid hln
              have e5 : IntKind.i64.wrap ((p' : Int) + (N : Int)) = (p' : Int) + (N : Int) := IntWalk.i64_in _ (by omega)
              have hroom2 : p' + N ≤ s.size := by omega
              clear hP hO ha hb hll hlen hln
              go_wp2_with fail
              refine (HIB.out _).mono ?_
              rintro e _ ⟨rfl, rfl⟩
              go_wp2_with fail
              refine (HPA.out _).mono ?_
              rintro e _ ⟨rfl, rfl⟩
              go_wp2_with fail
              go_region_with ((go_at_call 143; refine (HLN.out _).mono ?_; rintro e _ ⟨rfl, rfl⟩))
              all_goals
                go_wp2_with fail
                go_roundg (s.size - (p' + N))
                case measure => omega
                case rel =>
                  have hcast : (p' : Int) + (N : Int) = ((p' + N : Nat) : Int) := by omega
                  rw [hcast]
                  exact ⟨p' + N, hroom2, rfl, Scn.set_ (w := w2.drew) HSC.out (p' + N), HPN.out, HON.out, grow_set (wr := w2.drew) (grow_drewN HG.out 1) _⟩
          · rw [hb] at hbl
            have hx0 : 0 ≤ x := by simpa using hbl
            rw [skL_blank hb] at hP hO
            have HPN := Lib.hid (show p' + 1 + (skL (s.data.toList.drop (p' + 1))).1 = P by rw [← List.drop_drop, HRR.out]; simp only [List.drop_succ_cons, List.drop_zero] at hP ⊢; omega)
            have HON := Lib.hid (show (skL (s.data.toList.drop (p' + 1))).2 = O by rw [← List.drop_drop, HRR.out]; exact hO)
            clear hbl hP hO
            go_wp2_with fail
            refine (HIB.out _).mono ?_
            rintro e _ ⟨rfl, rfl⟩
            go_wp2_with fail
            go_roundg (s.size - (p' + 1))
            case measure => omega
            case rel => exact ⟨p' + 1, by omega, rfl, HSC.out.set_ (p' + 1), HPN.out, HON.out, grow_set HG.out _⟩
      · have hd : decide (p' < s.size) = false := decide_eq_false hlt
        rw [hd]
        have hP := HP.out
        have hO := HO.out
        rw [List.drop_eq_nil_of_le (by simp; omega), skL_nil] at hP hO
        have HPN := Lib.hid hP
        have HON := Lib.hid hO
        clear hP hO
        go_wp2_with fail
        go_ret
        refine ⟨by rw [← HON.out]; rfl, ?_, HG.out⟩
        rw [← HPN.out]
        exact HSC.out
end
section
open Go.RowKit
set_option linter.unusedVariables false
set_option linter.unusedSimpArgs false

/-- A word's value. -/
def wv (k : Nat) (p : Nat) (t : ByteArray) (n : Int) : Value := .agg #[.int .i64 k, .int .i64 p, .string t, .int .i64 n]
def RdP (w : World) (v : Value) (size err : Nat) (e : Ending) (w' : World) : Prop := e = .returned (.tuple #[v, .int .i64 size, .int .i64 err]) ∧ Below w.heap.size w w'
theorem same_of {P : Program} {f : FuncId} {args : Array Value} {w : World} {v : Value} (h : Calls P f args w fun e w' => e = .returned v ∧ w = w') : Calls P f args w fun e w' => e = .returned v ∧ w' = w := h.mono fun _ _ ⟨a, b⟩ => ⟨a, b.symm⟩
abbrev Z33 : Obj := .cells #[.int .i64 0, .int .i64 0, .string ⟨#[]⟩, .int .i64 0] 73

theorem extract_mid (s : ByteArray) (a b : Nat) : (s.extract a b).data.toList = (s.data.toList.drop a).take (b - a) := by
  simp [ByteArray.data_extract, Array.toList_extract, List.extract_eq_take_drop]
theorem ext_run (s : ByteArray) (p : Nat) : (s.extract p (p + (runL (s.data.toList.drop p)).length)).data.toList = runL (s.data.toList.drop p) := by
  have h1 : (s.extract p (p + (runL (s.data.toList.drop p)).length)).data.toList = (s.data.toList.drop p).take (runL (s.data.toList.drop p)).length := by
    rw [extract_mid]
    congr 1
    omega
  rw [h1]
  exact (List.prefix_iff_eq_take.1 (List.takeWhile_prefix _)).symm
theorem below_set4 {w W : World} {g : Nat} (h : Below w.heap.size w W) (hg : w.heap.size ≤ g) (a b c d : Value) : Below w.heap.size w ((((W.setCell ⟨g, 0, none⟩ a).setCell ⟨g, 1, none⟩ b).setCell ⟨g, 2, none⟩ c).setCell ⟨g, 3, none⟩ d) :=
  (((h.setCell hg _).setCell hg _).setCell hg _).setCell hg _
theorem blk33 {w : World} {g : Nat} {a b c d : Value} (h : Blk w g 73 #[a, b, c, d]) :
    w.cell? ⟨g, 0, none⟩ = some a ∧ w.cell? ⟨g, 1, none⟩ = some b ∧ w.cell? ⟨g, 2, none⟩ = some c ∧ w.cell? ⟨g, 3, none⟩ = some d ∧ w.frozen? ⟨g, 0, none⟩ = false ∧ w.frozen? ⟨g, 1, none⟩ = false ∧ w.frozen? ⟨g, 2, none⟩ = false ∧ w.frozen? ⟨g, 3, none⟩ = false :=
  ⟨h.cell 0, h.cell 1, h.cell 2, h.cell 3, h.frozen 0, h.frozen 1, h.frozen 2, h.frozen 3⟩
theorem set4 {w : World} {g : Nat} {a b c d : Value} (h : Blk w g 73 #[a, b, c, d]) (v0 v1 v2 v3 : Value) : Blk ((((w.setCell ⟨g, 0, none⟩ v0).setCell ⟨g, 1, none⟩ v1).setCell ⟨g, 2, none⟩ v2).setCell ⟨g, 3, none⟩ v3) g 73 #[v0, v1, v2, v3] :=
  (((Blk.set_ h 0 v0).set_ 1 v1).set_ 2 v2).set_ 3 v3
set_option maxRecDepth 100000 in
set_option maxHeartbeats 1000000 in
theorem ident_no {w : World} {b p : Nat} {s : ByteArray} (h : Scn w b s p) (hp : p < s.size) (hn : ltZ (s[p].toNat : Nat) = false) :
    Calls Tryz.prog 138 #[.pointer (some ⟨b, 0, none⟩)] w (RdP w (wv 0 0 ⟨#[]⟩ 0) 0 0) := by
  have hA : ∀ o, Scn (w.alloc o) b s p := fun o => Blk.alloc h o
  have HA := Lib.hid hA
  have c0 : ∀ o, (w.alloc o).cell? ⟨b, 0, none⟩ = some (.string s) := fun o => (hA o).cell 0
  have c1 : ∀ o, (w.alloc o).cell? ⟨b, 1, none⟩ = some (.int .i64 p) := fun o => (hA o).cell 1
  have p0 : (0 : Int) ≤ (p : Int) := by omega
  have p1 : (p : Int) < (s.size : Int) := by omega
  have hb := Blk.lt h
  clear hA
  have hs := fun W => same_of (startsIdent_any (s[p].toNat : Nat) W)
  rw [hn] at hs
  generalize hx : s[p] = c at *
  have HS := Lib.hid hs
  clear hs hn h
  go_enter Tryz.func138, Tryz.ntmps138
  go_wp2_with fail
  go_quiet ((go_at_call 166; exact Calls.quiet_of_same (HS.out _)))
  go_wp2_with fail
  refine bodyPost_ret (v := .tuple #[wv 0 0 ⟨#[]⟩ 0, .int .i64 0, .int .i64 0]) (by simp [results, Tryz.results138, go_sem, wv]) rfl ⟨rfl, ?_⟩
  exact below_set4 (Below.drewN_ ((Below.refl _ _).alloc (Nat.le_refl _) _) _) (Nat.le_refl _) _ _ _ _
set_option maxRecDepth 100000 in
set_option maxHeartbeats 1000000 in
theorem ident_bad {w : World} {b p : Nat} {s : ByteArray} (h : Scn w b s p) (hp : p < s.size) (hs : s.size ≤ 1000000) (hy : ltZ (s[p].toNat : Nat) = true) (hn : identL (runL (s.data.toList.drop p)) = false) :
    Calls Tryz.prog 138 #[.pointer (some ⟨b, 0, none⟩)] w (RdP w (wv 0 0 ⟨#[]⟩ 0) 0 30) := by
  have hA : ∀ o, Scn (w.alloc o) b s p := fun o => Blk.alloc h o
  have HA := Lib.hid hA
  have c0 : ∀ o, (w.alloc o).cell? ⟨b, 0, none⟩ = some (.string s) := fun o => (hA o).cell 0
  have c1 : ∀ o, (w.alloc o).cell? ⟨b, 1, none⟩ = some (.int .i64 p) := fun o => (hA o).cell 1
  have p0 : (0 : Int) ≤ (p : Int) := by omega
  have p1 : (p : Int) < (s.size : Int) := by omega
  have hb := Blk.lt h
  clear hA
  have hss := fun W => same_of (startsIdent_any (s[p].toNat : Nat) W)
  rw [hy] at hss
  generalize hx : s[p] = c at *
  have HS := Lib.hid hss
  have hrl := runL_len (s.data.toList.drop p)
  have hrun := fun W (hW : Scn W b s p) => run_any (w := W) hW (by omega) hs
  have htl : (s.extract p (p + (runL (s.data.toList.drop p)).length)).data.toList = runL (s.data.toList.drop p) := ext_run s p
  obtain ⟨t, ht⟩ : ∃ t, s.extract p (p + (runL (s.data.toList.drop p)).length) = t := ⟨_, rfl⟩
  rw [ht] at htl
  simp only [ht] at hrun
  have hid := fun W => isIdent_any t W (by have h3 : t.data.toList.length = t.size := by simp
                                           rw [htl] at h3; simp at hrl; unfold maxLen; omega)
  rw [htl, hn] at hid
  have HRUN := Lib.hid hrun
  have HID := Lib.hid hid
  clear hss hy hn h hrl hrun hid htl ht
  go_enter Tryz.func138, Tryz.ntmps138
  go_wp2_with fail
  go_quiet ((go_at_call 166; exact Calls.quiet_of_same (HS.out _)))
  go_wp2_with fail
  refine (HRUN.out ((w.alloc Z33).drewN nq) (HA.out _)).mono ?_
  rintro e w2 ⟨rfl, hb2⟩
  have HB2 := Lib.hid (show Below w.heap.size w w2 from (Below.drewN_ ((Below.refl w.heap.size w).alloc (Nat.le_refl _) Z33) nq).trans (hb2.mono (by simp)))
  have hz : Blk w2 w.heap.size 73 #[.int .i64 0, .int .i64 0, .string ⟨#[]⟩, .int .i64 0] := Blk.below (w := (w.alloc Z33).drewN nq) (Blk.new w 73 _) hb2 (by simp)
  obtain ⟨z0, z1, z2, z3, y0, y1, y2, y3⟩ := blk33 hz
  have hscn : Scn w2 b s p := Blk.below (w := (w.alloc Z33).drewN nq) (HA.out _) hb2 (by simp; omega)
  have d0 := hscn.c0
  have d1 := hscn.c1
  have HZ := Lib.hid hz
  clear hb2 hz hscn
  go_wp2_with fail
  refine (HID.out _).mono ?_
  rintro e _ ⟨rfl, rfl⟩
  go_wp2_with fail
  obtain ⟨f0, f1, f2, f3, _, _, _, _⟩ := blk33 (set4 HZ.out (.int .i64 0) (.int .i64 0) (.string ⟨#[]⟩) (.int .i64 0))
  refine bodyPost_ret (v := .tuple #[wv 0 0 ⟨#[]⟩ 0, .int .i64 0, .int .i64 30]) (by simp [results, Tryz.results138, go_sem, wv, f0, f1, f2, f3]) rfl ⟨rfl, ?_⟩
  exact below_set4 HB2.out (Nat.le_refl _) _ _ _ _
set_option maxRecDepth 100000 in
set_option maxHeartbeats 1000000 in
theorem ident_ok {w : World} {b p : Nat} {s : ByteArray} (h : Scn w b s p) (hp : p < s.size) (hs : s.size ≤ 1000000) (hy : ltZ (s[p].toNat : Nat) = true) (hn : identL (runL (s.data.toList.drop p)) = true) :
    Calls Tryz.prog 138 #[.pointer (some ⟨b, 0, none⟩)] w (RdP w (wv 1 p (s.extract p (p + (runL (s.data.toList.drop p)).length)) 0) (runL (s.data.toList.drop p)).length 0) := by
  have hA : ∀ o, Scn (w.alloc o) b s p := fun o => Blk.alloc h o
  have HA := Lib.hid hA
  have c0 : ∀ o, (w.alloc o).cell? ⟨b, 0, none⟩ = some (.string s) := fun o => (hA o).cell 0
  have c1 : ∀ o, (w.alloc o).cell? ⟨b, 1, none⟩ = some (.int .i64 p) := fun o => (hA o).cell 1
  have p0 : (0 : Int) ≤ (p : Int) := by omega
  have p1 : (p : Int) < (s.size : Int) := by omega
  have hb := Blk.lt h
  clear hA
  have hss := fun W => same_of (startsIdent_any (s[p].toNat : Nat) W)
  rw [hy] at hss
  generalize hx : s[p] = c at *
  have HS := Lib.hid hss
  have hrl := runL_len (s.data.toList.drop p)
  have hrun := fun W (hW : Scn W b s p) => run_any (w := W) hW (by omega) hs
  have htl : (s.extract p (p + (runL (s.data.toList.drop p)).length)).data.toList = runL (s.data.toList.drop p) := ext_run s p
  obtain ⟨t, ht⟩ : ∃ t, s.extract p (p + (runL (s.data.toList.drop p)).length) = t := ⟨_, rfl⟩
  rw [ht] at htl
  simp only [ht] at hrun
  have hid := fun W => isIdent_any t W (by have h3 : t.data.toList.length = t.size := by simp
                                           rw [htl] at h3; simp at hrl; unfold maxLen; omega)
  rw [htl, hn] at hid
  have HRUN := Lib.hid hrun
  have HID := Lib.hid hid
  have HT := Lib.hid ht
  have HTZ := Lib.hid (show t.size = (runL (s.data.toList.drop p)).length by rw [← htl]; simp)
  clear hss hy hn h hrl hrun hid htl ht
  go_enter Tryz.func138, Tryz.ntmps138
  go_wp2_with fail
  go_quiet ((go_at_call 166; exact Calls.quiet_of_same (HS.out _)))
  go_wp2_with fail
  refine (HRUN.out ((w.alloc Z33).drewN nq) (HA.out _)).mono ?_
  rintro e w2 ⟨rfl, hb2⟩
  have HB2 := Lib.hid (show Below w.heap.size w w2 from (Below.drewN_ ((Below.refl w.heap.size w).alloc (Nat.le_refl _) Z33) nq).trans (hb2.mono (by simp)))
  have hz : Blk w2 w.heap.size 73 #[.int .i64 0, .int .i64 0, .string ⟨#[]⟩, .int .i64 0] := Blk.below (w := (w.alloc Z33).drewN nq) (Blk.new w 73 _) hb2 (by simp)
  obtain ⟨z0, z1, z2, z3, y0, y1, y2, y3⟩ := blk33 hz
  have hscn : Scn w2 b s p := Blk.below (w := (w.alloc Z33).drewN nq) (HA.out _) hb2 (by simp; omega)
  have d0 := hscn.c0
  have d1 := hscn.c1
  have HZ := Lib.hid hz
  clear hb2 hz hscn
  go_wp2_with fail
  refine (HID.out _).mono ?_
  rintro e _ ⟨rfl, rfl⟩
  go_wp2_with fail
  obtain ⟨f0, f1, f2, f3, _, _, _, _⟩ := blk33 (set4 HZ.out (.int .i64 1) (.int .i64 p) (.string t) (.int .i64 0))
  refine bodyPost_ret (v := .tuple #[wv 1 p t 0, .int .i64 (t.size : Nat), .int .i64 0]) (by simp [results, Tryz.results138, go_sem, wv, f0, f1, f2, f3]) rfl ⟨by rw [HT.out, HTZ.out]; rfl, ?_⟩
  exact below_set4 HB2.out (Nat.le_refl _) _ _ _ _
def sgB (c : UInt8) : Bool := [123, 125, 91, 93, 40, 41, 60, 62, 61, 59, 44, 46, 45].contains c
theorem sg_index (c : UInt8) : decide (0 ≤ Lib.indexByte (⟨#[123, 125, 91, 93, 40, 41, 60, 62, 61, 59, 44, 46, 45]⟩ : ByteArray).data.toList c) = sgB c := by
  have : (decide (0 ≤ Lib.indexByte (⟨#[123, 125, 91, 93, 40, 41, 60, 62, 61, 59, 44, 46, 45]⟩ : ByteArray).data.toList c) == sgB c) = true := fin8 (p := fun c => decide (0 ≤ Lib.indexByte (⟨#[123, 125, 91, 93, 40, 41, 60, 62, 61, 59, 44, 46, 45]⟩ : ByteArray).data.toList c) == sgB c) (by decide +kernel) c
  simpa using this
set_option maxRecDepth 100000 in
set_option maxHeartbeats 1000000 in
theorem sign_no {w : World} {b p : Nat} {s : ByteArray} (h : Scn w b s p) (hp : p < s.size) (hn : sgB s[p] = false) :
    Calls Tryz.prog 141 #[.pointer (some ⟨b, 0, none⟩)] w (RdP w (wv 0 0 ⟨#[]⟩ 0) 0 0) := by
  have hA : ∀ o, Scn (w.alloc o) b s p := fun o => Blk.alloc h o
  have HA := Lib.hid hA
  have c0 : ∀ o, (w.alloc o).cell? ⟨b, 0, none⟩ = some (.string s) := fun o => (hA o).cell 0
  have c1 : ∀ o, (w.alloc o).cell? ⟨b, 1, none⟩ = some (.int .i64 p) := fun o => (hA o).cell 1
  have p0 : (0 : Int) ≤ (p : Int) := by omega
  have p1 : (p : Int) < (s.size : Int) := by omega
  have hb := Blk.lt h
  clear hA
  have hs := fun W => same_of (ibyte_any ⟨#[123, 125, 91, 93, 40, 41, 60, 62, 61, 59, 44, 46, 45]⟩ s[p] W)
  have hix : ¬ 0 ≤ Lib.indexByte (⟨#[123, 125, 91, 93, 40, 41, 60, 62, 61, 59, 44, 46, 45]⟩ : ByteArray).data.toList s[p] := by have := sg_index s[p]; rw [hn] at this; simpa using this
  generalize Lib.indexByte (⟨#[123, 125, 91, 93, 40, 41, 60, 62, 61, 59, 44, 46, 45]⟩ : ByteArray).data.toList s[p] = y at *
  have hix2 : y < 0 := by omega
  generalize hx : s[p] = c at *
  have HS := Lib.hid hs
  clear hs hn h
  go_enter Tryz.func141, Tryz.ntmps141
  go_wp2_with fail
  go_quiet ((go_at_call 142; exact Calls.quiet_of_same (HS.out _)))
  go_wp2_with fail
  refine bodyPost_ret (v := .tuple #[wv 0 0 ⟨#[]⟩ 0, .int .i64 0, .int .i64 0]) (by simp [results, Tryz.results141, go_sem, wv]) rfl ⟨rfl, ?_⟩
  exact below_set4 (Below.drewN_ ((Below.refl _ _).alloc (Nat.le_refl _) _) _) (Nat.le_refl _) _ _ _ _
set_option maxRecDepth 100000 in
set_option maxHeartbeats 1000000 in
theorem sign_ok {w : World} {b p : Nat} {s : ByteArray} (h : Scn w b s p) (hp : p < s.size) (hs : s.size ≤ 1000000) (hn : sgB s[p] = true) :
    Calls Tryz.prog 141 #[.pointer (some ⟨b, 0, none⟩)] w (RdP w (wv 4 p (s.extract p (p + 1)) 0) 1 0) := by
  have hA : ∀ o, Scn (w.alloc o) b s p := fun o => Blk.alloc h o
  have HA := Lib.hid hA
  have c0 : ∀ o, (w.alloc o).cell? ⟨b, 0, none⟩ = some (.string s) := fun o => (hA o).cell 0
  have c1 : ∀ o, (w.alloc o).cell? ⟨b, 1, none⟩ = some (.int .i64 p) := fun o => (hA o).cell 1
  have p0 : (0 : Int) ≤ (p : Int) := by omega
  have p1 : (p : Int) < (s.size : Int) := by omega
  have hb := Blk.lt h
  clear hA
  have hss := fun W => same_of (ibyte_any ⟨#[123, 125, 91, 93, 40, 41, 60, 62, 61, 59, 44, 46, 45]⟩ s[p] W)
  have hix : 0 ≤ Lib.indexByte (⟨#[123, 125, 91, 93, 40, 41, 60, 62, 61, 59, 44, 46, 45]⟩ : ByteArray).data.toList s[p] := by have := sg_index s[p]; rw [hn] at this; simpa using this
  generalize Lib.indexByte (⟨#[123, 125, 91, 93, 40, 41, 60, 62, 61, 59, 44, 46, 45]⟩ : ByteArray).data.toList s[p] = y at *
  have hix2 : ¬ y < 0 := by omega
  generalize hx : s[p] = c at *
  have HS := Lib.hid hss
  clear hss hn
  have hpc := fun W (hW : Scn W b s p) => piece_any (w := W) 1 hW (by omega) hs
  have HPC := Lib.hid hpc
  obtain ⟨t, ht⟩ : ∃ t, s.extract p (p + 1) = t := ⟨_, rfl⟩
  simp only [ht] at hpc ⊢
  replace HPC := Lib.hid hpc
  clear hpc ht h
  go_enter Tryz.func141, Tryz.ntmps141
  go_wp2_with fail
  go_quiet ((go_at_call 142; exact Calls.quiet_of_same (HS.out _)))
  have HSA := Lib.hid (show Scn ((w.alloc Z33).drewN nq) b s p from HA.out _)
  have HZA := Lib.hid (show Blk ((w.alloc Z33).drewN nq) w.heap.size 73 #[.int .i64 0, .int .i64 0, .string ⟨#[]⟩, .int .i64 0] from Blk.new w 73 _)
  have HBA := Lib.hid (show Below w.heap.size w ((w.alloc Z33).drewN nq) from Below.drewN_ ((Below.refl w.heap.size w).alloc (Nat.le_refl _) Z33) nq)
  have hsz : w.heap.size < ((w.alloc Z33).drewN nq).heap.size := by simp
  have d1 := HSA.out.c1
  clear c0 c1
  go_upto_region 3 with fail
  generalize (w.alloc (Obj.cells #[.int .i64 0, .int .i64 0, .string ⟨#[]⟩, .int .i64 0] 73)).drewN nq = wA at *
  go_region_with ((go_at_call 173; refine (HPC.out wA.drew HSA.out).mono ?_; rintro e w3 ⟨rfl, hb3⟩; have HB3 := Lib.hid (show Below w.heap.size w w3 from HBA.out.drew.trans (hb3.mono HBA.out.drew.size)); have hz : Blk w3 w.heap.size 73 #[.int .i64 0, .int .i64 0, .string ⟨#[]⟩, .int .i64 0] := Blk.below (w := wA.drew) HZA.out hb3 hsz; have HZ := Lib.hid hz; obtain ⟨z0, z1, z2, z3, y0, y1, y2, y3⟩ := blk33 hz; have d3 : w3.cell? ⟨b, 1, none⟩ = some (.int .i64 p) := (Blk.below (w := wA.drew) HSA.out hb3 (by show b < wA.heap.size; omega)).cell 1; clear hz hb3))
  all_goals
    go_wp2_with fail
    obtain ⟨f0, f1, f2, f3, _, _, _, _⟩ := blk33 (set4 HZ.out (.int .i64 4) (.int .i64 p) (.string t) (.int .i64 0))
    refine bodyPost_ret (v := .tuple #[wv 4 p t 0, .int .i64 1, .int .i64 0]) (by simp [results, Tryz.results141, go_sem, wv, f0, f1, f2, f3]) rfl ⟨rfl, ?_⟩
    exact below_set4 HB3.out (Nat.le_refl _) _ _ _ _
set_option maxRecDepth 100000 in
set_option maxHeartbeats 1000000 in
theorem number_no {w : World} {b p : Nat} {s : ByteArray} (h : Scn w b s p) (hp : p < s.size) (hn : dgZ (s[p].toNat : Nat) = false) :
    Calls Tryz.prog 139 #[.pointer (some ⟨b, 0, none⟩)] w (RdP w (wv 0 0 ⟨#[]⟩ 0) 0 0) := by
  have hA : ∀ o, Scn (w.alloc o) b s p := fun o => Blk.alloc h o
  have HA := Lib.hid hA
  have c0 : ∀ o, (w.alloc o).cell? ⟨b, 0, none⟩ = some (.string s) := fun o => (hA o).cell 0
  have c1 : ∀ o, (w.alloc o).cell? ⟨b, 1, none⟩ = some (.int .i64 p) := fun o => (hA o).cell 1
  have p0 : (0 : Int) ≤ (p : Int) := by omega
  have p1 : (p : Int) < (s.size : Int) := by omega
  have hb := Blk.lt h
  clear hA
  have hs := fun W => same_of (lisDigit_any (s[p].toNat : Nat) W)
  rw [hn] at hs
  generalize hx : s[p] = c at *
  have HS := Lib.hid hs
  clear hs hn h
  go_enter Tryz.func139, Tryz.ntmps139
  go_wp2_with fail
  go_quiet ((go_at_call 169; exact Calls.quiet_of_same (HS.out _)))
  go_wp2_with fail
  refine bodyPost_ret (v := .tuple #[wv 0 0 ⟨#[]⟩ 0, .int .i64 0, .int .i64 0]) (by simp [results, Tryz.results139, go_sem, wv]) rfl ⟨rfl, ?_⟩
  exact below_set4 (Below.drewN_ ((Below.refl _ _).alloc (Nat.le_refl _) _) _) (Nat.le_refl _) _ _ _ _
end
end Go.Proofs.YthmdaejlopjjoaaGreatDoor
