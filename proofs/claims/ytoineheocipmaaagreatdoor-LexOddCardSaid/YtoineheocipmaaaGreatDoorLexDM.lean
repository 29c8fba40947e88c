/-
  Plain mathematics of lex: the digits of a number are read as that number. No program.
-/
import Derived.Test.YtoineheocipmaaaGreatDoorLexBM
namespace Go.Proofs.YtoineheocipmaaaGreatDoor
set_option linter.unusedVariables false
set_option linter.unusedSimpArgs false

def hexM : List UInt8 := [48, 49, 50, 51, 52, 53, 54, 55, 56, 57, 97, 66, 99, 68, 101, 70]
def hxD (n : Nat) : UInt8 := hexM.getD n 0
theorem hx_fin : ∀ n : Fin 16, dgV ((hxD n.val).toNat : Nat) = (n.val : Int) ∧ wdZ ((hxD n.val).toNat : Nat) = true ∧ (n.val < 10 → dgZ ((hxD n.val).toNat : Nat) = true) ∧ (hxD n.val = 48 → n.val = 0) := by decide +kernel
theorem hx_val {n : Nat} (h : n < 16) : dgV ((hxD n).toNat : Nat) = (n : Int) ∧ wdZ ((hxD n).toNat : Nat) = true ∧ (n < 10 → dgZ ((hxD n).toNat : Nat) = true) ∧ (hxD n = 48 → n = 0) := hx_fin ⟨n, h⟩
/-- A number's digits, of a base. -/
def dgL (b : Nat) : Nat → Nat → List UInt8
  | 0, n => [hxD n]
  | k + 1, n => if n < b then [hxD n] else dgL b k (n / b) ++ [hxD (n % b)]
theorem dgL_fuel (b : Nat) (hb : 2 ≤ b) : ∀ (k k' n : Nat), n < b ^ (k + 1) → n < b ^ (k' + 1) → dgL b k n = dgL b k' n
  | 0, 0, n, _, _ => rfl
  | 0, k' + 1, n, h, _ => by
    rw [dgL, dgL, if_pos (by simpa using h)]
  | k + 1, 0, n, _, h => by
    rw [dgL, dgL, if_pos (by simpa using h)]
  | k + 1, k' + 1, n, h, h' => by
    rw [dgL, dgL]
    by_cases h1 : n < b
    · rw [if_pos h1, if_pos h1]
    · rw [if_neg h1, if_neg h1, dgL_fuel b hb k k' (n / b) (by rw [Nat.div_lt_iff_lt_mul (by omega)]; rwa [Nat.pow_succ] at h) (by rw [Nat.div_lt_iff_lt_mul (by omega)]; rwa [Nat.pow_succ] at h')]
theorem dgL_len (b : Nat) : ∀ (k n : Nat), 1 ≤ (dgL b k n).length ∧ (dgL b k n).length ≤ k + 1
  | 0, n => ⟨Nat.le_refl _, Nat.le_refl _⟩
  | k + 1, n => by
    rw [dgL]
    split
    · simp
    · have := dgL_len b k (n / b)
      rw [List.length_append]
      simp only [List.length_cons, List.length_nil]
      omega
theorem dgL_val (b : Nat) (hb : 2 ≤ b) (hb16 : b ≤ 16) : ∀ (k n : Nat), n < b ^ (k + 1) → pv (b : Int) (dgL b k n) = (n : Int) ∧ ∀ x ∈ dgL b k n, dgV (x.toNat : Nat) < (b : Int) ∧ wdZ (x.toNat : Nat) = true
  | 0, n, h => by
    have hn : n < b := by simpa using h
    obtain ⟨h1, h2, _, _⟩ := hx_val (show n < 16 by omega)
    refine ⟨by show 0 * (b : Int) + dgV ((hxD n).toNat : Nat) = _; rw [h1]; omega, fun x hx => ?_⟩
    obtain rfl : x = hxD n := by simpa [dgL] using hx
    exact ⟨by rw [h1]; omega, h2⟩
  | k + 1, n, h => by
    rw [dgL]
    by_cases hn : n < b
    · rw [if_pos hn]
      obtain ⟨h1, h2, _, _⟩ := hx_val (show n < 16 by omega)
      refine ⟨by show 0 * (b : Int) + dgV ((hxD n).toNat : Nat) = _; rw [h1]; omega, fun x hx => ?_⟩
      obtain rfl : x = hxD n := by simpa using hx
      exact ⟨by rw [h1]; omega, h2⟩
    · rw [if_neg hn]
      have hd : n / b < b ^ (k + 1) := by rw [Nat.div_lt_iff_lt_mul (by omega)]; rwa [Nat.pow_succ] at h
      obtain ⟨i1, i2⟩ := dgL_val b hb hb16 k (n / b) hd
      have hm : n % b < b := Nat.mod_lt _ (by omega)
      obtain ⟨h1, h2, _, _⟩ := hx_val (show n % b < 16 by omega)
      refine ⟨?_, fun x hx => ?_⟩
      · rw [pv_snoc, i1, h1]
        have := Nat.div_add_mod n b
        have h3 : ((n / b : Nat) : Int) * (b : Int) = ((b * (n / b) : Nat) : Int) := by rw [Int.natCast_mul, Int.mul_comm]
        rw [h3]
        omega
      · rcases List.mem_append.1 hx with hx | hx
        · exact i2 x hx
        · obtain rfl : x = hxD (n % b) := by simpa using hx
          exact ⟨by rw [h1]; omega, h2⟩
/-- The first digit: of a base of ten at most it is a digit; it is 0 of 0 alone. -/
theorem dgL_head (b : Nat) (hb : 2 ≤ b) (hb10 : b ≤ 10) : ∀ (k n : Nat), n < b ^ (k + 1) → ∃ c r, dgL b k n = c :: r ∧ dgZ (c.toNat : Nat) = true ∧ (c = 48 → n = 0)
  | 0, n, h => by
    have hn : n < b := by simpa using h
    obtain ⟨_, _, h3, h4⟩ := hx_val (show n < 16 by omega)
    exact ⟨_, [], rfl, h3 (by omega), h4⟩
  | k + 1, n, h => by
    rw [dgL]
    by_cases hn : n < b
    · rw [if_pos hn]
      obtain ⟨_, _, h3, h4⟩ := hx_val (show n < 16 by omega)
      exact ⟨_, [], rfl, h3 (by omega), h4⟩
    · rw [if_neg hn]
      have hd : n / b < b ^ (k + 1) := by rw [Nat.div_lt_iff_lt_mul (by omega)]; rwa [Nat.pow_succ] at h
      obtain ⟨c, r, e, h3, h4⟩ := dgL_head b hb hb10 k (n / b) hd
      refine ⟨c, r ++ [hxD (n % b)], by rw [e]; rfl, h3, fun hc => ?_⟩
      have := h4 hc
      have h5 : 0 < n / b := Nat.div_pos (by omega) (by omega)
      omega
theorem vl_ten {l : List UInt8} {n : Nat} (hl : l ≠ []) (hd : ∀ x ∈ l, dgV (x.toNat : Nat) < 10) (hv : pv 10 l = (n : Int)) (hn : n ≤ 2147483648) (h0 : l.headD 0 = 48 → l.length = 1) : vlR ⟨l.toArray⟩ = ((n : Int), 0) := by
  have hh : ∀ a b : UInt8, (a = 48) → (b = 120 ∨ b = 88) → Lib.hasPrefix l [a, b] = false := by
    intro a b ha hb
    cases hp : Lib.hasPrefix l [a, b]
    · rfl
    · cases l with
      | nil => exact absurd rfl hl
      | cons c r =>
        obtain ⟨r', h1, h2⟩ := pre_head hp
        have := h0 (by rw [h1, ha]; rfl)
        rw [h2] at this
        simp at this
  have p1 : Lib.hasPrefix (⟨l.toArray⟩ : ByteArray).data.toList [48, 120] = false := hh 48 120 rfl (.inl rfl)
  have p2 : Lib.hasPrefix (⟨l.toArray⟩ : ByteArray).data.toList [48, 88] = false := hh 48 88 rfl (.inr rfl)
  have hs : (⟨l.toArray⟩ : ByteArray).size = l.length := rfl
  have p3 : (decide (1 < (⟨l.toArray⟩ : ByteArray).size) && ((⟨l.toArray⟩ : ByteArray).data.toList.headD 0 == 48)) = false := by
    rw [hs]
    show (decide (1 < l.length) && (l.headD 0 == 48)) = false
    by_cases h1 : l.headD 0 = 48
    · rw [h0 h1]; rfl
    · have : (l.headD 0 == 48) = false := by simpa using h1
      rw [this, Bool.and_false]
  have hB : ntB ⟨l.toArray⟩ = 10 := by unfold ntB; rw [p1, p2, p3]; rfl
  have hD : ntD ⟨l.toArray⟩ = ⟨l.toArray⟩ := by unfold ntD; rw [p1, p2, p3]; rfl
  have hlen : 0 < l.length := List.length_pos_iff.2 hl
  unfold vlR
  rw [hB, hD, hs]
  have hall : (⟨l.toArray⟩ : ByteArray).data.toList.all (fun x => decide (dgV x.toNat < 10)) = true := by
    show l.all _ = true
    rw [List.all_eq_true]
    intro x hx
    simpa using hd x hx
  rw [if_neg (by rw [hall]; simp; omega)]
  show (if 2147483648 < pv 10 l then _ else (pv 10 l, 0)) = _
  rw [hv, if_neg (by omega)]
theorem vl_eight {l : List UInt8} {n : Nat} (hl : l ≠ []) (hd : ∀ x ∈ l, dgV (x.toNat : Nat) < 8) (hv : pv 8 l = (n : Int)) (hn : n ≤ 2147483648) : vlR ⟨(48 :: l).toArray⟩ = ((n : Int), 0) := by
  have hh : ∀ b : UInt8, (b = 120 ∨ b = 88) → Lib.hasPrefix (48 :: l) [48, b] = false := by
    intro b hb
    cases hp : Lib.hasPrefix (48 :: l) [48, b]
    · rfl
    · obtain ⟨r', h1, h2⟩ := pre_head hp
      have := hd b (by rw [h2]; simp)
      rcases hb with rfl | rfl <;> exact absurd this (by decide)
  have p1 : Lib.hasPrefix (⟨(48 :: l).toArray⟩ : ByteArray).data.toList [48, 120] = false := hh 120 (.inl rfl)
  have p2 : Lib.hasPrefix (⟨(48 :: l).toArray⟩ : ByteArray).data.toList [48, 88] = false := hh 88 (.inr rfl)
  have hlen : 0 < l.length := List.length_pos_iff.2 hl
  have hs : (⟨(48 :: l).toArray⟩ : ByteArray).size = l.length + 1 := rfl
  have p3 : (decide (1 < (⟨(48 :: l).toArray⟩ : ByteArray).size) && ((⟨(48 :: l).toArray⟩ : ByteArray).data.toList.headD 0 == 48)) = true := by
    rw [hs]
    show (decide (1 < l.length + 1) && ((48 : UInt8) == 48)) = true
    simp
    omega
  have hB : ntB ⟨(48 :: l).toArray⟩ = 8 := by unfold ntB; rw [p1, p2, p3]; rfl
  have hD : ntD ⟨(48 :: l).toArray⟩ = ⟨l.toArray⟩ := by
    unfold ntD
    rw [p1, p2, p3]
    show (⟨(48 :: l).toArray⟩ : ByteArray).extract 1 _ = _
    apply bytes_injP
    rw [Lib.extract_to_end]
    rfl
  unfold vlR
  rw [hB, hD]
  have hall : (⟨l.toArray⟩ : ByteArray).data.toList.all (fun x => decide (dgV x.toNat < 8)) = true := by
    show l.all _ = true
    rw [List.all_eq_true]
    intro x hx
    simpa using hd x hx
  have hs2 : (⟨l.toArray⟩ : ByteArray).size = l.length := rfl
  rw [if_neg (by rw [hall, hs2]; simp; omega)]
  show (if 2147483648 < pv 8 l then _ else (pv 8 l, 0)) = _
  rw [hv, if_neg (by omega)]
theorem vl_hex {l : List UInt8} {n : Nat} (hl : l ≠ []) (hd : ∀ x ∈ l, dgV (x.toNat : Nat) < 16) (hv : pv 16 l = (n : Int)) (hn : n ≤ 2147483648) : vlR ⟨(48 :: 88 :: l).toArray⟩ = ((n : Int), 0) := by
  have p2 : Lib.hasPrefix (⟨(48 :: 88 :: l).toArray⟩ : ByteArray).data.toList [48, 88] = true := by
    show Lib.hasPrefix (48 :: 88 :: l) [48, 88] = true
    simp [Lib.hasPrefix, List.isPrefixOf]
  have hlen : 0 < l.length := List.length_pos_iff.2 hl
  have hB : ntB ⟨(48 :: 88 :: l).toArray⟩ = 16 := by unfold ntB; rw [p2, Bool.or_true]; rfl
  have hD : ntD ⟨(48 :: 88 :: l).toArray⟩ = ⟨l.toArray⟩ := by
    unfold ntD
    rw [p2, Bool.or_true]
    show (⟨(48 :: 88 :: l).toArray⟩ : ByteArray).extract 2 _ = _
    apply bytes_injP
    rw [Lib.extract_to_end]
    rfl
  unfold vlR
  rw [hB, hD]
  have hall : (⟨l.toArray⟩ : ByteArray).data.toList.all (fun x => decide (dgV x.toNat < 16)) = true := by
    show l.all _ = true
    rw [List.all_eq_true]
    intro x hx
    simpa using hd x hx
  have hs2 : (⟨l.toArray⟩ : ByteArray).size = l.length := rfl
  rw [if_neg (by rw [hall, hs2]; simp; omega)]
  show (if 2147483648 < pv 16 l then _ else (pv 16 l, 0)) = _
  rw [hv, if_neg (by omega)]
/-- Numbers of seeds, spelt in three ways, are tokens. -/
theorem tok_ten {n : Nat} (hn : n ≤ 2147483648) : TokOk (dgL 10 11 n) 2 ⟨(dgL 10 11 n).toArray⟩ (n : Int) := by
  have hlt : n < 10 ^ (11 + 1) := by omega
  obtain ⟨h1, h2⟩ := dgL_val 10 (by omega) (by omega) 11 n hlt
  obtain ⟨c, r, e, h3, h4⟩ := dgL_head 10 (by omega) (by omega) 11 n hlt
  have hv : vlR ⟨(dgL 10 11 n).toArray⟩ = ((n : Int), 0) := vl_ten (by rw [e]; simp) (fun x hx => (h2 x hx).1) h1 hn (by
    intro h
    have hc : c = 48 := by rw [e] at h; exact h
    have := h4 hc
    subst this
    rfl)
  rw [e] at h2 hv ⊢
  exact TokOk.num h3 (fun x hx => (h2 x (by simp [hx])).2) hv
theorem tok_eight {n : Nat} (hn : n ≤ 2147483648) : TokOk (48 :: dgL 8 11 n) 2 ⟨(48 :: dgL 8 11 n).toArray⟩ (n : Int) := by
  have hlt : n < 8 ^ (11 + 1) := by omega
  obtain ⟨h1, h2⟩ := dgL_val 8 (by omega) (by omega) 11 n hlt
  have hne : dgL 8 11 n ≠ [] := by have := (dgL_len 8 11 n).1; intro e; rw [e] at this; simp at this
  exact TokOk.num (by decide) (fun x hx => (h2 x hx).2) (vl_eight hne (fun x hx => (h2 x hx).1) h1 hn)
theorem tok_hex {n : Nat} (hn : n ≤ 2147483648) : TokOk (48 :: 88 :: dgL 16 11 n) 2 ⟨(48 :: 88 :: dgL 16 11 n).toArray⟩ (n : Int) := by
  have hlt : n < 16 ^ (11 + 1) := by omega
  obtain ⟨h1, h2⟩ := dgL_val 16 (by omega) (by omega) 11 n hlt
  have hne : dgL 16 11 n ≠ [] := by have := (dgL_len 16 11 n).1; intro e; rw [e] at this; simp at this
  exact TokOk.num (by decide) (fun x hx => by
    rcases List.mem_cons.1 hx with rfl | hx
    · decide
    · exact (h2 x hx).2) (vl_hex hne (fun x hx => (h2 x hx).1) h1 hn)
end Go.Proofs.YtoineheocipmaaaGreatDoor
