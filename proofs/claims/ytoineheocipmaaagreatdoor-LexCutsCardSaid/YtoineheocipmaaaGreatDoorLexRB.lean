/-
  lex: the document's answer: a literal's end.
-/
import Derived.Test.YtoineheocipmaaaGreatDoorLexRA
namespace Go.Proofs.YtoineheocipmaaaGreatDoor
open Go.RowKit
set_option linter.unusedVariables false
set_option linter.unusedSimpArgs false

/-- The end of a literal as the document's answer looks for it: a line feed ends the search, also behind a backslash. -/
def lrF (q : UInt8) : Nat → Nat → List UInt8 → Nat
  | 0, _, _ => 0
  | _ + 1, _, [] => 0
  | k + 1, p, c :: r => if c = 10 then 0 else if c = q then p + 1 else if c = 92 then (if r.head? = some 10 then 0 else lrF q k (p + 2) (r.drop 1)) else lrF q k (p + 1) r
theorem lrF_fuel (q : UInt8) : ∀ (k k' p : Nat) (l : List UInt8), l.length ≤ k → l.length ≤ k' → lrF q k p l = lrF q k' p l
  | 0, k', p, l, h, _ => by
    obtain rfl : l = [] := List.eq_nil_of_length_eq_zero (by omega)
    cases k' <;> rfl
  | k + 1, 0, p, l, _, h => by
    obtain rfl : l = [] := List.eq_nil_of_length_eq_zero (by omega)
    rfl
  | k + 1, k' + 1, p, [], _, _ => rfl
  | k + 1, k' + 1, p, c :: r, h, h' => by
    simp only [List.length_cons] at h h'
    rw [lrF, lrF, lrF_fuel q k k' (p + 2) (r.drop 1) (by simp; omega) (by simp; omega), lrF_fuel q k k' (p + 1) r (by omega) (by omega)]
def lrP (q : UInt8) (p : Nat) (l : List UInt8) : Nat := lrF q l.length p l
theorem lrP_nil (q : UInt8) (p : Nat) : lrP q p [] = 0 := rfl
theorem lrP_cons (q : UInt8) (p : Nat) (c : UInt8) (r : List UInt8) : lrP q p (c :: r) = if c = 10 then 0 else if c = q then p + 1 else if c = 92 then (if r.head? = some 10 then 0 else lrP q (p + 2) (r.drop 1)) else lrP q (p + 1) r := by
  unfold lrP
  rw [List.length_cons, lrF, lrF_fuel q r.length (r.drop 1).length _ _ (by simp) (Nat.le_refl _)]
/-- What the document's answer says of a literal's end. -/
def lrA (n : Nat) : Value := .tuple #[.int .i64 n, .bool (decide (n ≠ 0))]

set_option maxRecDepth 100000 in
set_option maxHeartbeats 1000000 in
theorem refLit_any (s : ByteArray) (p : Nat) (w : World) (hp : p < s.size) (hs : s.size ≤ 1000000) : Calls Tryz.prog 95 #[.string s, .int .i64 p] w fun e w' => e = .returned (lrA (lrP s[p] (p + 1) (s.data.toList.drop (p + 1)))) ∧ Below w.heap.size w w' := by
  have hp' : (p : Int) < (s.size : Int) := by omega
  obtain ⟨N, hN⟩ : ∃ N, N = lrP s[p] (p + 1) (s.data.toList.drop (p + 1)) := ⟨_, rfl⟩
  rw [← hN]
  generalize hq : s[p] = q at *
  have hq8 := q.toNat_lt
  have HN := Lib.hid hN
  clear hN
  go_enter Tryz.func95, Tryz.ntmps95
  go_wp2_with fail
  go_loopg [6] (s.size + 1 - (p + 1)) (fun g v wr => ∃ (k : Nat), k ≤ s.size + 1 ∧ g = s.size + 1 - k ∧ v = .int .i64 k ∧ Below w.heap.size w wr ∧ N = lrP q k (s.data.toList.drop k))
  case atStart => exact ⟨p + 1, by omega, rfl, rfl, Below.refl _ _, HN.out⟩
  case round =>
    obtain ⟨k, hk, rfl, rfl, hw, hrel⟩ := hrel
    have HW := Lib.hid hw
    clear hw
    by_cases hlt : k < s.size
    · have hlt' : (k : Int) < (s.size : Int) := by omega
      rw [drop_at s k hlt, lrP_cons] at hrel
      generalize hx : s[k] = c at *
      have hc8 := c.toNat_lt
      by_cases h10 : c = 10
      · rw [if_pos h10] at hrel
        have e1 : ((c.toNat : Int) != 10) = false := by rw [h10]; rfl
        subst hrel
        clear h10 HN
        go_wp2_with fail
        refine bodyPost_ret (v := .tuple #[.int .i64 0, .bool false]) (by simp [results, Tryz.results95, go_sem]) rfl ⟨rfl, by first | exact HW.out | exact HW.out.drew | exact Below.drewN_ HW.out _⟩
      · have e1 : ((c.toNat : Int) != 10) = true := by simp only [bne_iff_ne, ne_eq]; intro e; exact h10 (UInt8.toNat_inj.1 (by show c.toNat = 10; omega))
        rw [if_neg h10] at hrel
        by_cases hcq : c = q
        · rw [if_pos hcq] at hrel
          have e2 : ((c.toNat : Int) == (q.toNat : Int)) = true := by rw [hcq]; simp
          subst hrel
          clear h10 hcq HN
          go_wp2_with fail
          go_quiet (fail)
          go_wp2_with fail
          refine bodyPost_ret (v := .tuple #[.int .i64 ((k : Int) + 1), .bool true]) (by simp [results, Tryz.results95, go_sem]) rfl ⟨?_, by first | exact HW.out | exact HW.out.drew | exact Below.drewN_ HW.out _⟩
          have e9 : (k : Int) + 1 = ((k + 1 : Nat) : Int) := by omega
          rw [e9]
          rfl
        · rw [if_neg hcq] at hrel
          have e2 : ((c.toNat : Int) == (q.toNat : Int)) = false := by simp only [beq_eq_false_iff_ne, ne_eq]; intro e; exact hcq (UInt8.toNat_inj.1 (by omega))
          by_cases h92 : c = 92
          · rw [if_pos h92] at hrel
            have e3 : ((c.toNat : Int) == 92) = true := by rw [h92]; rfl
            by_cases hl2 : k + 1 < s.size
            · have hl2' : (k : Int) + 1 < (s.size : Int) := by omega
              rw [drop_at s (k + 1) hl2] at hrel
              generalize hy : s[k + 1] = d at *
              have hd8 := d.toNat_lt
              by_cases hd : d = 10
              · rw [if_pos (by rw [hd]; rfl)] at hrel
                have e4 : ((d.toNat : Int) == 10) = true := by rw [hd]; rfl
                subst hrel
                clear h10 hcq h92 hd HN
                go_wp2_with fail
                go_quiet (fail)
                go_wp2_with fail
                refine bodyPost_ret (v := .tuple #[.int .i64 0, .bool false]) (by simp [results, Tryz.results95, go_sem]) rfl ⟨rfl, by first | exact HW.out | exact HW.out.drew | exact Below.drewN_ HW.out _⟩
              · rw [if_neg (by simpa using hd)] at hrel
                have e4 : ((d.toNat : Int) == 10) = false := by simp only [beq_eq_false_iff_ne, ne_eq]; intro e; exact hd (UInt8.toNat_inj.1 (by show d.toNat = 10; omega))
                have HL := Lib.hid hrel
                clear h10 hcq h92 hd HN hrel
                go_wp2_with fail
                go_quiet (fail)
                go_wp2_with fail
                go_roundg (s.size + 1 - (k + 2))
                case measure => omega
                case rel => exact ⟨k + 2, by omega, rfl, by go_num, by first | exact HW.out | exact HW.out.drew | exact Below.drewN_ HW.out _, HL.out⟩
            · have hl2' : ¬ (k : Int) + 1 < (s.size : Int) := by omega
              have hnil : s.data.toList.drop (k + 1) = [] := List.drop_eq_nil_of_le (by simp; omega)
              rw [hnil] at hrel
              have HL := Lib.hid hrel
              clear h10 hcq h92 HN hrel
              go_wp2_with fail
              go_quiet (fail)
              go_wp2_with fail
              go_roundg (s.size + 1 - (k + 2))
              case measure => omega
              case rel => exact ⟨k + 2, by omega, rfl, by go_num, by first | exact HW.out | exact HW.out.drew | exact Below.drewN_ HW.out _, by rw [List.drop_eq_nil_of_le (by simp; omega)]; exact HL.out⟩
          · rw [if_neg h92] at hrel
            have e3 : ((c.toNat : Int) == 92) = false := by simp only [beq_eq_false_iff_ne, ne_eq]; intro e; exact h92 (UInt8.toNat_inj.1 (by show c.toNat = 92; omega))
            have HL := Lib.hid hrel
            clear h10 hcq h92 HN hrel
            go_wp2_with fail
            go_quiet (fail)
            go_wp2_with fail
            go_roundg (s.size + 1 - (k + 1))
            case measure => omega
            case rel => exact ⟨k + 1, by omega, rfl, by go_num, by first | exact HW.out | exact HW.out.drew | exact Below.drewN_ HW.out _, HL.out⟩
    · have hlt' : ¬ (k : Int) < (s.size : Int) := by omega
      have hnil : s.data.toList.drop k = [] := List.drop_eq_nil_of_le (by simp; omega)
      rw [hnil, lrP_nil] at hrel
      subst hrel
      clear HN
      go_wp2_with fail
      refine bodyPost_ret (v := .tuple #[.int .i64 0, .bool false]) (by simp [results, Tryz.results95, go_sem]) rfl ⟨rfl, by first | exact HW.out | exact HW.out.drew | exact Below.drewN_ HW.out _⟩
end Go.Proofs.YtoineheocipmaaaGreatDoor
