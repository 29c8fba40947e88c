/-
  lex: words of seeds, as the statements' own functions make them.
-/
import Derived.Test.YtoineheocipmaaaGreatDoorLexKM
import Derived.Test.YtoineheocipmaaaGreatDoorLexC
import Derived.BigQuiet
namespace Go.Proofs.YtoineheocipmaaaGreatDoor
open Go.RowKit
set_option linter.unusedVariables false
set_option linter.unusedSimpArgs false

theorem conv_one (z : Int) (h0 : 0 ≤ z) (h1 : z < 256) (W : World) : (convert 42 9 (.slice (some ⟨W.heap.size, 0, none⟩) 1 1)).run Tryz.prog (W.alloc (.cells #[.int .u8 z] 5)) = .ok (.string ⟨#[UInt8.ofNat z.toNat]⟩) (W.alloc (.cells #[.int .u8 z] 5)) :=
  (Bs.single W z h0 h1).convert (P := Tryz.prog) 42 5 9 Tryz.underlying42 Tryz.underlying5 Tryz.underlying9
theorem hex_ext (n : Nat) (h : n < 16) : (⟨#[48, 49, 50, 51, 52, 53, 54, 55, 56, 57, 97, 66, 99, 68, 101, 70]⟩ : ByteArray).extract n (n + 1) = ⟨#[hxD n]⟩ := by
  have key : ∀ m : Fin 16, ((⟨#[48, 49, 50, 51, 52, 53, 54, 55, 56, 57, 97, 66, 99, 68, 101, 70]⟩ : ByteArray).extract m.val (m.val + 1)).data.toList = [hxD m.val] := by decide +kernel
  apply bytes_injP
  rw [key ⟨n, h⟩]
theorem sgn_ext (n : Nat) (h : n < 13) : (⟨#[123, 125, 91, 93, 40, 41, 60, 62, 61, 59, 44, 46, 45]⟩ : ByteArray).extract n (n + 1) = ⟨#[sgM.getD n 0]⟩ := by
  have key : ∀ m : Fin 13, ((⟨#[123, 125, 91, 93, 40, 41, 60, 62, 61, 59, 44, 46, 45]⟩ : ByteArray).extract m.val (m.val + 1)).data.toList = [sgM.getD m.val 0] := by decide +kernel
  apply bytes_injP
  rw [key ⟨n, h⟩]
set_option maxRecDepth 100000 in
set_option maxHeartbeats 1000000 in
theorem digit_small (b n : Nat) (hb16 : b ≤ 16) (hn : n < b) (w : World) : Calls Tryz.prog 98 #[.int .i64 n, .int .i64 b] w fun e w' => e = .returned (.string ⟨#[hxD n]⟩) ∧ ∃ m, w' = w.drewN m := by
  have h1 : (n : Int) < (b : Int) := by omega
  have h2 : (n : Int) + 1 ≤ 16 := by omega
  have he := hex_ext n (by omega)
  have HE := Lib.hid he
  clear he
  go_enter Tryz.func98, Tryz.ntmps98
  go_wp2_with fail
  go_ret
  exact ⟨by have := HE.out; rw [← this]; simp, 0, rfl⟩
set_option maxRecDepth 100000 in
set_option maxHeartbeats 1000000 in
theorem digits_any (b : Nat) (hb : 2 ≤ b) (hb16 : b ≤ 16) : ∀ (k n : Nat) (w : World), n < b ^ (k + 1) → n ≤ 2147483648 → k ≤ 11 → Calls Tryz.prog 98 #[.int .i64 n, .int .i64 b] w fun e w' => e = .returned (.string ⟨(dgL b k n).toArray⟩) ∧ ∃ m, w' = w.drewN m
  | 0, n, w, h, _, _ => by
    rw [dgL]
    exact digit_small b n hb16 (by simpa using h) w
  | k + 1, n, w, h, hn, hk => by
    rw [dgL]
    by_cases hs : n < b
    · rw [if_pos hs]
      exact digit_small b n hb16 hs w
    · rw [if_neg hs]
      have hd : n / b < b ^ (k + 1) := by rw [Nat.div_lt_iff_lt_mul (by omega)]; rwa [Nat.pow_succ] at h
      have hq : n / b ≤ n := Nat.div_le_self n b
      have hm : n % b < b := Nat.mod_lt _ (by omega)
      have c1 := fun W => digits_any b hb hb16 k (n / b) W hd (by omega) (by omega)
      have c2 := fun W => digit_small b (n % b) hb16 hm W
      have e1 : (n : Int).tdiv (b : Int) = ((n / b : Nat) : Int) := rfl
      have e2 : (n : Int).tmod (b : Int) = ((n % b : Nat) : Int) := rfl
      have hlen := (dgL_len b k (n / b)).2
      have hsz1 : (⟨(dgL b k (n / b)).toArray⟩ : ByteArray).size ≤ k + 1 := hlen
      have h1 : ¬ (n : Int) < (b : Int) := by omega
      have hb0 : ((b : Int) == 0) = false := by simp; omega
      generalize n / b = q at *
      generalize n % b = r at *
      have w1 : IntKind.i64.wrap (q : Int) = (q : Int) := IntWalk.i64_in _ (by omega)
      have w2 : IntKind.i64.wrap (r : Int) = (r : Int) := IntWalk.i64_in _ (by omega)
      obtain ⟨t, a1, l1⟩ : ∃ c : ByteArray, (∀ W, (Op.stringOp .add ⟨(dgL b k q).toArray⟩ ⟨#[hxD r]⟩).run Tryz.prog W = .ok (.string c) W) ∧ c = ⟨(dgL b k q ++ [hxD r]).toArray⟩ := by
        refine ⟨_, fun W => run_string_add_sum W _ _ ?_, ?_⟩
        · show (⟨(dgL b k q).toArray⟩ : ByteArray).size + 1 ≤ _
          omega
        · apply bytes_injP; simp
      have L1 := Lib.hid l1
      have C1 := Lib.hid c1
      have C2 := Lib.hid c2
      generalize (⟨(dgL b k q).toArray⟩ : ByteArray) = T1 at *
      generalize (⟨#[hxD r]⟩ : ByteArray) = T2 at *
      clear c1 c2 hd hlen l1 hsz1 h
      go_enter Tryz.func98, Tryz.ntmps98
      go_wp2_with fail
      go_quiet ((go_at_call 98; first | (with_reducible exact Calls.quiet_of (C1.out _)) | (with_reducible exact Calls.quiet_of (C2.out _))))
      go_wp2_with fail
      go_ret
      exact ⟨by rw [← L1.out]; rfl, _, rfl⟩
end Go.Proofs.YtoineheocipmaaaGreatDoor
