/-
  lex: the document's answer: the value of digits.
-/
import Derived.Test.YtoineheocipmaaaGreatDoorLexRS
namespace Go.Proofs.YtoineheocipmaaaGreatDoor
open Go.RowKit
set_option linter.unusedVariables false
set_option linter.unusedSimpArgs false

def lowL : ByteArray := ⟨#[48, 49, 50, 51, 52, 53, 54, 55, 56, 57, 97, 98, 99, 100, 101, 102]⟩
def uppL : ByteArray := ⟨#[48, 49, 50, 51, 52, 53, 54, 55, 56, 57, 65, 66, 67, 68, 69, 70]⟩
theorem dg_lit_fin : ∀ d : Fin 16, ∀ n : Fin 256, ((lowL[d.val]'(d.isLt) == UInt8.ofNat n.val) || (uppL[d.val]'(d.isLt) == UInt8.ofNat n.val)) = decide (dgV ((UInt8.ofNat n.val).toNat : Nat) = (d.val : Int)) := by decide +kernel
theorem dg_lit (d : Nat) (hd : d < 16) (c : UInt8) : ((lowL[d]'hd == c) || (uppL[d]'hd == c)) = decide (dgV (c.toNat : Nat) = (d : Int)) := by
  have := fin8 (p := fun c => ((lowL[d]'hd == c) || (uppL[d]'hd == c)) == decide (dgV (c.toNat : Nat) = (d : Int))) (fun n => by simpa using dg_lit_fin ⟨d, hd⟩ n) c
  simpa using this
/-- Digits of a base, as a number that is cut at 2^31+1; below 0: they are none. -/
def rvR (b : Int) (l : List UInt8) : Int := if l = [] ∨ l.all (fun x => decide (dgV x.toNat < b)) = false then -1 else min (pv b l) 2147483649

set_option maxRecDepth 100000 in
set_option maxHeartbeats 1000000 in
theorem refVal_any (s : ByteArray) (b : Int) (hb : b = 8 ∨ b = 10 ∨ b = 16) (w : World) (hs : s.size ≤ 1000000) : Calls Tryz.prog 157 #[.string s, .int .i64 b] w fun e w' => e = .returned (.int .i64 (rvR b s.data.toList)) ∧ Below w.heap.size w w' := by
  obtain ⟨N, hN⟩ : ∃ N, N = rvR b s.data.toList := ⟨_, rfl⟩
  rw [← hN]
  have HN := Lib.hid hN
  clear hN
  have hb16 : b ≤ 16 := by omega
  have hb8 : 8 ≤ b := by omega
  go_enter Tryz.func157, Tryz.ntmps157
  go_wp2_with fail
  go_loopg [5, 6] s.size (fun g v5 v wr => ∃ (i : Nat) (n : Int), i ≤ s.size ∧ g = s.size - i ∧ v5 = .int .i64 n ∧ v = .int .i64 i ∧ Below w.heap.size w wr ∧ n = min (pv b (s.data.toList.take i)) 2147483649 ∧ (s.data.toList.take i).all (fun x => decide (dgV x.toNat < b)) = true)
  case atStart => exact ⟨0, 0, by omega, rfl, rfl, rfl, Below.refl _ _, rfl, rfl⟩
  case round =>
    obtain ⟨i, n, hi, rfl, rfl, rfl, hbe, hn, hall⟩ := hrel
    have HBE := Lib.hid hbe
    have HNN := Lib.hid hn
    have HAL := Lib.hid hall
    have hn0 : 0 ≤ n := by have := pv_nonneg b (by omega) (s.data.toList.take i); omega
    have hnM : n ≤ 2147483649 := by omega
    clear hbe hn hall
    by_cases hil : i < s.size
    · have hil' : (i : Int) < (s.size : Int) := by omega
      generalize hx : s[i] = c at *
      have HX := Lib.hid hx
      have hd0 := (dgV_range (c.toNat : Nat)).1
      obtain ⟨D, hD⟩ : ∃ D, D = dgV (c.toNat : Nat) := ⟨_, rfl⟩
      have HD := Lib.hid hD
      rw [← hD] at hd0
      clear hD
      go_wp2_with fail
      go_loopg [7, 8] b.toNat (fun g v7 v8 w2 => ∃ (d : Nat) (kk : Int), (d : Int) ≤ b ∧ g = b.toNat - d ∧ v7 = .int .i64 kk ∧ kk = (if D < d then D else -1) ∧ v8 = .int .i64 d ∧ Below w.heap.size w w2)
      case atStart => exact ⟨0, -1, by omega, rfl, rfl, by rw [if_neg (by simpa using hd0)], rfl, HBE.out⟩
      case round =>
        obtain ⟨d, kk, hd, rfl, rfl, hkk, rfl, hbe⟩ := hrel
        have HB2 := Lib.hid hbe
        have HKK := Lib.hid hkk
        have hkD : kk = -1 ∨ (kk = D ∧ D < d) := by rw [hkk]; split <;> first | exact .inr ⟨rfl, by assumption⟩ | exact .inl rfl
        clear hbe hkk
        by_cases hdb : (d : Int) < b
        · have hd16 : d < 16 := by omega
          have hd16' : (d : Int) < 16 := by omega
          have hlit := dg_lit d hd16 c
          rw [← HD.out] at hlit
          unfold lowL uppL at hlit
          have HLT := Lib.hid hlit
          clear hlit
          generalize hx1 : (⟨#[48, 49, 50, 51, 52, 53, 54, 55, 56, 57, 97, 98, 99, 100, 101, 102]⟩ : ByteArray)[d]'hd16 = x1 at *
          generalize hx2 : (⟨#[48, 49, 50, 51, 52, 53, 54, 55, 56, 57, 65, 66, 67, 68, 69, 70]⟩ : ByteArray)[d]'hd16 = x2 at *
          by_cases h1 : c = x1
          · have e1 : ((c.toNat : Int) == (x1.toNat : Int)) = true := by rw [h1]; simp
            have HDd := Lib.hid (show D = d by have := HLT.out; rw [h1] at this; simpa using this.symm)
            clear h1
            go_wp2_with fail
            go_quiet (fail)
            go_wp2_with fail
            go_roundg (b.toNat - (d + 1))
            case measure => omega
            case rel => exact ⟨d + 1, d, by omega, rfl, rfl, by have := HDd.out; rw [if_pos (by omega), this], by go_num, by first | exact HB2.out | exact HB2.out.drew | exact Below.drewN_ HB2.out _⟩
          · have e1 : ((c.toNat : Int) == (x1.toNat : Int)) = false := by simp only [beq_eq_false_iff_ne, ne_eq]; intro e; exact h1 (UInt8.toNat_inj.1 (by omega))
            by_cases h2 : c = x2
            · have e2 : ((c.toNat : Int) == (x2.toNat : Int)) = true := by rw [h2]; simp
              have HDd := Lib.hid (show D = d by have := HLT.out; rw [h2] at this; simpa using this.symm)
              clear h1 h2
              go_wp2_with fail
              go_quiet (fail)
              go_wp2_with fail
              go_roundg (b.toNat - (d + 1))
              case measure => omega
              case rel => exact ⟨d + 1, d, by omega, rfl, rfl, by have := HDd.out; rw [if_pos (by omega), this], by go_num, by first | exact HB2.out | exact HB2.out.drew | exact Below.drewN_ HB2.out _⟩
            · have e2 : ((c.toNat : Int) == (x2.toNat : Int)) = false := by simp only [beq_eq_false_iff_ne, ne_eq]; intro e; exact h2 (UInt8.toNat_inj.1 (by omega))
              have hDd : D ≠ d := by
                have := HLT.out
                rw [(show (x1 == c) = false by simpa using fun e => h1 (Eq.symm e)), (show (x2 == c) = false by simpa using fun e => h2 (Eq.symm e))] at this
                simpa using this.symm
              have HDd := Lib.hid hDd
              clear h1 h2 hDd
              go_wp2_with fail
              go_quiet (fail)
              go_wp2_with fail
              go_roundg (b.toNat - (d + 1))
              case measure => omega
              case rel => exact ⟨d + 1, kk, by omega, rfl, rfl, by (have := HDd.out; rw [HKK.out]; by_cases h3 : D < (d : Int) <;> first | rw [if_pos h3, if_pos (by omega)] | rw [if_neg h3, if_neg (by omega)]), by go_num, by first | exact HB2.out | exact HB2.out.drew | exact Below.drewN_ HB2.out _⟩
        · obtain rfl : b = (d : Int) := by omega
          by_cases hDb : D < (d : Int)
          · have hk : kk = D := by rw [HKK.out, if_pos hDb]
            subst hk
            have hneg : ¬ kk < 0 := by omega
            clear hkD
            have e5 : IntKind.i64.wrap ((d : Int) * n) = (d : Int) * n := by rcases hb with h | h | h <;> rw [h] <;> exact IntWalk.i64_in _ (by omega)
            have hpr : 0 ≤ (d : Int) * n ∧ (d : Int) * n ≤ 34359738384 := by rcases hb with h | h | h <;> rw [h] <;> omega
            generalize hpp : (d : Int) * n = pp at *
            have e6 : IntKind.i64.wrap (pp + kk) = pp + kk := IntWalk.i64_in _ (by omega)
            have HPP := Lib.hid hpp
            have HDB := Lib.hid hDb
            clear hpp hDb
            go_wp2_with fail
            have htk : s.data.toList.take (i + 1) = s.data.toList.take i ++ [c] := by
              have h3 := HX.out
              rw [← h3]
              exact nth_take s.data.toList i (by simpa using hil)
            go_roundg (s.size - (i + 1))
            case measure => omega
            case rel =>
              refine ⟨i + 1, _, by omega, rfl, rfl, by go_num, HB2.out, ?_, ?_⟩
              · have e7 : wrap64 (wrap64 ((d : Int) * n) + kk) = pp + kk := by have h6 := HDB.out; rw [HPP.out]; unfold wrap64; omega
                have h3 := HNN.out
                have h4 := pv_nonneg (d : Int) (by omega) (s.data.toList.take i)
                rw [e7, htk, pv_snoc, ← HD.out, ← HPP.out, h3]
                generalize pv (d : Int) (s.data.toList.take i) = P at *
                rcases hb with h | h | h <;> rw [h] <;> omega
              · rw [htk, List.all_append, HAL.out]
                have h3 := HDB.out
                rw [HD.out] at h3
                simp [h3]
          · have hk : kk = -1 := by rw [HKK.out, if_neg hDb]
            subst hk
            have HDB := Lib.hid hDb
            clear hkD hDb
            go_wp2_with fail
            have hN : N = -1 := by
              rw [HN.out]
              unfold rvR
              rw [if_pos]
              right
              rw [List.all_eq_false]
              refine ⟨c, ?_, ?_⟩
              · have h3 := HX.out
                rw [← h3]
                exact Array.getElem_mem_toList _
              · have h3 := HDB.out
                rw [HD.out] at h3
                simpa using h3
            subst hN
            go_ret
            exact ⟨rfl, HB2.out⟩
    · obtain rfl : i = s.size := by omega
      have htk : s.data.toList.take s.size = s.data.toList := List.take_of_length_le (by simp)
      by_cases hz : s.size = 0
      · have hnil : s.data.toList = [] := List.eq_nil_of_length_eq_zero (by simpa using hz)
        have hN : N = -1 := by rw [HN.out]; unfold rvR; rw [if_pos (.inl hnil)]
        subst hN
        have hz' : ((s.size : Int) == 0) = true := by rw [hz]; rfl
        clear htk hnil
        go_wp2_with fail
        go_ret
        exact ⟨rfl, HBE.out⟩
      · have hN : N = n := by
          have h1 := HNN.out
          have h2 := HAL.out
          rw [htk] at h1 h2
          rw [HN.out, h1]
          unfold rvR
          rw [if_neg]
          intro h
          rcases h with h | h
          · exact hz (by have := congrArg List.length h; simpa using this)
          · rw [h2] at h; cases h
        subst hN
        have hz' : ((s.size : Int) == 0) = false := by simp only [beq_eq_false_iff_ne, ne_eq]; omega
        clear htk
        go_wp2_with fail
        go_ret
        exact ⟨rfl, HBE.out⟩
end Go.Proofs.YtoineheocipmaaaGreatDoor
