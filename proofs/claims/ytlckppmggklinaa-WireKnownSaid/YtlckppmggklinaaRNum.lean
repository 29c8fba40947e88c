/-
  The document's answer: number, Copy.
-/
import Derived.Test.YtlckppmggklinaaFacts
namespace Go.Proofs.Ytlckppmggklinaa
open Go.RowKit
set_option linter.unusedVariables false

/-- Where a number ends: 0 beside an error. -/
def endOf (p : Nat) (r : Nat × Nat × Nat) : Nat := if r.1 = 0 then p + r.2.2 else 0
def NumP (w : World) (p : Nat) (r : Nat × Nat × Nat) (e : Ending) (w' : World) : Prop := e = .returned (.tuple #[.int .u64 r.2.1, .int .i64 (endOf p r : Nat), .int .i64 r.1]) ∧ w = w'

theorem nstep (acc x i : Nat) (ha : acc < 2 ^ (7 * i)) (hi : i ≤ 9) (hx : i = 9 → x ≤ 1) :
    IntKind.u64.wrap ((acc : Int) + IntKind.u64.wrap ((x : Int) % 128 * 2 ^ (7 * i))) = ((acc + x % 128 * 2 ^ (7 * i) : Nat) : Int) := by
  have h := vstep acc x i ha hi hx
  have hc : ((x : Int) % 128 * 2 ^ (7 * i)) = ((x % 128 * 2 ^ (7 * i) : Nat) : Int) := by simp
  have hw : IntKind.u64.wrap ((x % 128 * 2 ^ (7 * i) : Nat) : Int) = ((x % 128 * 2 ^ (7 * i) : Nat) : Int) := by rw [IntKind.wrap_u64]; omega
  rw [hc, hw, IntKind.wrap_u64]; omega

theorem nr_done {w : World} {p i acc x : Nat} {X : UInt8} {l : List UInt8} {r : Nat × Nat × Nat} (HV : Hid (rv (l.drop (p + i)) i acc = r)) (HA : Hid (acc < 2 ^ (7 * i))) (HX : Hid (x = X.toNat)) (HD : Hid (l.drop (p + i) = X :: l.drop (p + i + 1))) (hi : i ≤ 9) (hx9 : i = 9 → x ≤ 1) (hx : x < 128) :
    NumP w p r (.returned (.tuple #[.int .u64 (IntKind.u64.wrap ((acc : Int) + IntKind.u64.wrap ((x : Int) % 128 * 2 ^ (7 * i)))), .int .i64 ((p : Int) + (i : Int) + 1), .int .i64 0])) w := by
  have hr : r = (0, acc + x % 128 * 2 ^ (7 * i), i + 1) := by
    rw [← HV.out, HD.out, rv, ← HX.out, if_neg (fun h => by have := hx9 h.1; omega), if_pos hx]
  subst hr
  rw [nstep acc x i HA.out hi hx9]
  refine ⟨?_, rfl⟩
  simp only [endOf, if_true]
  congr 5
theorem nr_form {w : World} {p i acc x : Nat} {X : UInt8} {l : List UInt8} {r : Nat × Nat × Nat} (HV : Hid (rv (l.drop (p + i)) i acc = r)) (HX : Hid (x = X.toNat)) (HD : Hid (l.drop (p + i) = X :: l.drop (p + i + 1))) (hi : i = 9) (hx : 1 < x) :
    NumP w p r (.returned (.tuple #[.int .u64 0, .int .i64 0, .int .i64 4])) w := by
  have hr : r = (4, 0, 0) := by rw [← HV.out, HD.out, rv, ← HX.out, if_pos ⟨hi, hx⟩]
  subst hr
  exact ⟨rfl, rfl⟩
theorem nr_trunc {w : World} {p i acc n : Nat} {l : List UInt8} {r : Nat × Nat × Nat} (HV : Hid (rv (l.drop (p + i)) i acc = r)) (hl : l.length = n) (hp : n ≤ p + i) :
    NumP w p r (.returned (.tuple #[.int .u64 0, .int .i64 0, .int .i64 3])) w := by
  have hr : r = (3, 0, 0) := by rw [← HV.out, List.drop_eq_nil_of_le (by omega)]; rfl
  subst hr
  exact ⟨rfl, rfl⟩
theorem nr_more {p i acc x : Nat} {X : UInt8} {l : List UInt8} {r : Nat × Nat × Nat} (HV : Hid (rv (l.drop (p + i)) i acc = r)) (HA : Hid (acc < 2 ^ (7 * i))) (HX : Hid (x = X.toNat)) (HD : Hid (l.drop (p + i) = X :: l.drop (p + i + 1))) (hi : i < 9) (hx : ¬ x < 128) :
    Value.int .u64 (IntKind.u64.wrap ((acc : Int) + IntKind.u64.wrap ((x : Int) % 128 * 2 ^ (7 * i)))) = .int .u64 ((acc + x % 128 * 2 ^ (7 * i) : Nat) : Int) ∧ rv (l.drop (p + (i + 1))) (i + 1) (acc + x % 128 * 2 ^ (7 * i)) = r ∧ acc + x % 128 * 2 ^ (7 * i) < 2 ^ (7 * (i + 1)) := by
  have h := vstep acc x i HA.out (by omega) (fun h => by omega)
  refine ⟨by rw [nstep acc x i HA.out (by omega) (fun h => by omega)], ?_, h.2.2 hi⟩
  rw [← HV.out, HD.out, rv, ← HX.out, if_neg (fun h => by omega), if_neg hx, Nat.add_assoc]

set_option maxRecDepth 100000 in
set_option maxHeartbeats 1000000 in
theorem number_any {w : World} {lo hi n c p : Nat} {A : Option Addr} {l : List UInt8} (hB : Bs w lo hi A n c l) (hp : p ≤ n) (hn : n ≤ 2147483648) :
    Calls Try.prog 50 #[.slice A n c, .int .i64 p] w (NumP w p (rv (l.drop p) 0 0)) := by
  obtain ⟨r, hr⟩ : ∃ r, r = rv (l.drop p) 0 0 := ⟨_, rfl⟩
  rw [← hr]
  have HR := Lib.hid hr.symm
  clear hr
  go_enter Try.func50, Try.ntmps50
  go_wp2
  go_loop [7, 8] (fun a s => ∃ i acc : Nat, a = .int .u64 acc ∧ s = .int .i64 i ∧ i ≤ 9 ∧ p + i ≤ n ∧ Hid (rv (l.drop (p + i)) i acc = r) ∧ Hid (acc < 2 ^ (7 * i))) (fun _ s => 10 - (intOf s).toNat)
  case atStart => exact ⟨0, 0, rfl, rfl, by omega, by omega, Lib.hid HR.out, Lib.hid (by decide)⟩
  case round =>
    obtain ⟨i, acc, rfl, rfl, hi9, hpn, HV, HA⟩ := hrel
    by_cases hpe : p + i < n
    · have hb : ¬ (n : Int) ≤ (p : Int) + (i : Int) := by omega
      have hp0 : (0 : Int) ≤ (p : Int) + (i : Int) := by omega
      have hp1 : (p : Int) + (i : Int) < (n : Int) := by omega
      obtain ⟨X, b, o, rfl, hbh, hdr, hcx⟩ := hB.drop_at (p := p + i) hpe
      obtain ⟨x, hx⟩ : ∃ x, x = X.toNat := ⟨_, rfl⟩
      rw [← hx] at hcx
      have hx256 : x < 256 := by rw [hx]; exact UInt8.toNat_lt _
      have HX := Lib.hid hx
      have HD := Lib.hid hdr
      clear hx hdr
      by_cases hi : i = 9
      · have hb2 : ((i : Int) == 9) = true := by simp; omega
        have H9 := Lib.hid hi
        clear hi
        by_cases hx1 : 1 < x
        · go_wp2
          refine bodyPost_ret (v := .tuple #[.int .u64 0, .int .i64 0, .int .i64 4]) (by simp [results, Try.results50, go_sem]) rfl ?_
          exact nr_form HV HX HD H9.out hx1
        · have hx2 : x < 128 := by omega
          go_wp2
          refine bodyPost_ret (v := .tuple #[.int .u64 (IntKind.u64.wrap ((acc : Int) + IntKind.u64.wrap ((x : Int) % 128 * 2 ^ (7 * i)))), .int .i64 ((p : Int) + (i : Int) + 1), .int .i64 0]) (by simp [results, Try.results50, go_sem]) rfl ?_
          exact nr_done HV HA HX HD hi9 (fun _ => by omega) hx2
      · have hb2 : ((i : Int) == 9) = false := by simp; omega
        by_cases hx1 : x < 128
        · go_wp2
          refine bodyPost_ret (v := .tuple #[.int .u64 (IntKind.u64.wrap ((acc : Int) + IntKind.u64.wrap ((x : Int) % 128 * 2 ^ (7 * i)))), .int .i64 ((p : Int) + (i : Int) + 1), .int .i64 0]) (by simp [results, Try.results50, go_sem]) rfl ?_
          exact nr_done HV HA HX HD hi9 (fun h => absurd h hi) hx1
        · go_wp2
          have hm := nr_more HV HA HX HD (by omega) hx1
          exact ⟨⟨i + 1, _, hm.1, by go_num, by omega, by omega, Lib.hid hm.2.1, Lib.hid hm.2.2⟩, by simp [intOf]; omega⟩
    · have hb : (n : Int) ≤ (p : Int) + (i : Int) := by omega
      go_wp2
      refine bodyPost_ret (v := .tuple #[.int .u64 0, .int .i64 0, .int .i64 3]) (by simp [results, Try.results50, go_sem]) rfl ?_
      exact nr_trunc HV hB.len (by omega)
end Go.Proofs.Ytlckppmggklinaa
