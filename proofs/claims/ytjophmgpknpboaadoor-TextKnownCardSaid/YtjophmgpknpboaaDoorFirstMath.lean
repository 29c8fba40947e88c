/-
  Plain mathematics of the document's first rune: it is the rune that is encoded there, where one is. No program.
-/
import Derived.Test.YtjophmgpknpboaaDoorUtfMore
namespace Go.Proofs.YtjophmgpknpboaaDoor
open Go.Lib
set_option linter.unusedVariables false
set_option linter.unusedSimpArgs false

/-- How many bytes a first byte tells, and the number's upper bits. -/
def hdN (b : Nat) : Nat × Int := if 240 ≤ b then (4, (b % 8 : Nat)) else if 224 ≤ b then (3, (b % 16 : Nat)) else if 192 ≤ b then (2, (b % 32 : Nat)) else (1, (b : Nat))
def accN : Int → List UInt8 → Int
  | n, [] => n
  | n, x :: r => accN (64 * n + (x.toNat % 64 : Nat)) r
/-- The number that bytes tell. -/
def fsN (l : List UInt8) : Int := accN (hdN (l.headD 0).toNat).2 ((l.drop 1).take ((hdN (l.headD 0).toNat).1 - 1))
/-- The document's first rune: its number, and how many bytes it has; 0 and 0: there is none. -/
def fsR (l : List UInt8) : Int × Nat :=
  if rnB (fsN l) = true ∧ (hdN (l.headD 0).toNat).1 ≤ l.length ∧ encodeRune (fsN l) = l.take (hdN (l.headD 0).toNat).1 then (fsN l, (hdN (l.headD 0).toNat).1) else (0, 0)

theorem fs_parts (n : Nat) (h : rnB n = true) (t : List UInt8) : (hdN ((encodeRune n ++ t).headD 0).toNat).1 = (encodeRune n).length ∧ fsN (encodeRune n ++ t) = n := by
  have hr := rnB_range h
  unfold fsN encodeRune
  rcases (show n ≤ 127 ∨ (128 ≤ n ∧ n ≤ 2047) ∨ ((2048 ≤ n ∧ n < 55296) ∨ (57343 < n ∧ n ≤ 65535)) ∨ (65536 ≤ n ∧ n ≤ 1114111) by omega) with q | q | q | q
  · rw [encodeRuneZ_one (by omega) (by omega)]
    simp only [List.map_cons, List.map_nil, List.cons_append, List.nil_append, List.headD_cons, List.length_cons, List.length_nil, List.drop_succ_cons, List.drop_zero, Int.toNat_natCast]
    rw [u8_of n (by omega)]
    have e : hdN n = (1, (n : Int)) := by unfold hdN; rw [if_neg (by omega), if_neg (by omega), if_neg (by omega)]
    rw [e]
    exact ⟨rfl, rfl⟩
  · rw [encodeRuneZ_two (by omega) (by omega)]
    have e0 : ((192 + (n : Int) / 64)).toNat = 192 + n / 64 := by omega
    have e1 : ((128 + (n : Int) % 64)).toNat = 128 + n % 64 := by omega
    simp only [List.map_cons, List.map_nil, List.cons_append, List.nil_append, List.headD_cons, List.length_cons, List.length_nil, List.drop_succ_cons, List.drop_zero, e0, e1]
    rw [u8_of (192 + n / 64) (by omega)]
    have e : hdN (192 + n / 64) = (2, ((n / 64 : Nat) : Int)) := by
      unfold hdN; rw [if_neg (by omega), if_neg (by omega), if_pos (by omega), show (192 + n / 64) % 32 = n / 64 by omega]
    rw [e]
    refine ⟨rfl, ?_⟩
    simp only [Nat.reduceSub, List.take_succ_cons, List.take_zero, accN]
    rw [u8_of _ (by omega)]
    clear e0 e1 e
    omega
  · rw [encodeRuneZ_three (by omega)]
    have e0 : ((224 + (n : Int) / 4096)).toNat = 224 + n / 4096 := by omega
    have e1 : ((128 + (n : Int) / 64 % 64)).toNat = 128 + n / 64 % 64 := by omega
    have e2 : ((128 + (n : Int) % 64)).toNat = 128 + n % 64 := by omega
    simp only [List.map_cons, List.map_nil, List.cons_append, List.nil_append, List.headD_cons, List.length_cons, List.length_nil, List.drop_succ_cons, List.drop_zero, e0, e1, e2]
    rw [u8_of (224 + n / 4096) (by omega)]
    have e : hdN (224 + n / 4096) = (3, ((n / 4096 : Nat) : Int)) := by
      unfold hdN; rw [if_neg (by omega), if_pos (by omega), show (224 + n / 4096) % 16 = n / 4096 by omega]
    rw [e]
    refine ⟨rfl, ?_⟩
    simp only [Nat.reduceSub, List.take_succ_cons, List.take_zero, accN]
    rw [u8_of _ (by omega), u8_of _ (by omega)]
    clear e0 e1 e2 e
    omega
  · rw [encodeRuneZ_four (by omega) (by omega)]
    have e0 : ((240 + (n : Int) / 262144)).toNat = 240 + n / 262144 := by omega
    have e1 : ((128 + (n : Int) / 4096 % 64)).toNat = 128 + n / 4096 % 64 := by omega
    have e2 : ((128 + (n : Int) / 64 % 64)).toNat = 128 + n / 64 % 64 := by omega
    have e3 : ((128 + (n : Int) % 64)).toNat = 128 + n % 64 := by omega
    simp only [List.map_cons, List.map_nil, List.cons_append, List.nil_append, List.headD_cons, List.length_cons, List.length_nil, List.drop_succ_cons, List.drop_zero, e0, e1, e2, e3]
    rw [u8_of (240 + n / 262144) (by omega)]
    have e : hdN (240 + n / 262144) = (4, ((n / 262144 : Nat) : Int)) := by
      unfold hdN; rw [if_pos (by omega), show (240 + n / 262144) % 8 = n / 262144 by omega]
    rw [e]
    refine ⟨rfl, ?_⟩
    simp only [Nat.reduceSub, List.take_succ_cons, List.take_zero, accN]
    rw [u8_of _ (by omega), u8_of _ (by omega), u8_of _ (by omega)]
    clear e0 e1 e2 e3 e
    omega
theorem fs_ok (l : List UInt8) (hne : l ≠ []) : fsR l = if okL l then ((((decodeL l).1 : Nat) : Int), (decodeL l).2) else (0, 0) := by
  cases hok : okL l
  · rw [if_neg (by simp)]
    unfold fsR
    rw [if_neg]
    rintro ⟨h1, h2, h3⟩
    obtain ⟨n, hn⟩ := Int.eq_ofNat_of_zero_le (show 0 ≤ fsN l by have := rnB_range h1; omega)
    rw [hn] at h1 h3
    have := List.take_append_drop (hdN (l.headD 0).toNat).1 l
    rw [← h3] at this
    rw [← this, ok_enc n h1] at hok
    cases hok
  · rw [if_pos rfl]
    obtain ⟨n, hn, he⟩ := ok_dec l hne hok
    generalize hr : l.drop (encodeRune n).length = r at he
    subst he
    obtain ⟨h1, h2⟩ := fs_parts n hn r
    rw [dec_enc n hn]
    unfold fsR
    rw [h1, h2, if_pos ⟨hn, by simp, by simp⟩]
end Go.Proofs.YtjophmgpknpboaaDoor
