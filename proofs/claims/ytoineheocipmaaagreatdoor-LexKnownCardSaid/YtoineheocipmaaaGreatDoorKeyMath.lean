/-
  Plain mathematics of keys: no program.
-/
import Derived.Test.YtoineheocipmaaaGreatDoorKeys
namespace Go.Proofs.YtoineheocipmaaaGreatDoor
set_option linter.unusedVariables false
set_option linter.unusedSimpArgs false

theorem keyF_no : ∀ (up : Bool) (l : List UInt8), ∀ x ∈ keyF up l, x.toNat ≠ 95
  | up, [], x, h => by simp [keyF] at h
  | up, c :: r, x, h => by
    rw [keyF] at h
    by_cases hc : c.toNat = 95
    · rw [if_pos hc] at h
      exact keyF_no true r x h
    · rw [if_neg hc] at h
      rcases List.mem_cons.1 h with rfl | h
      · by_cases q : (up && loZ c.toNat) = true
        · rw [if_pos q]
          have hl : loZ c.toNat = true := by revert q; cases up <;> simp
          have hc2 := c.toNat_lt
          simp only [loZ, Bool.and_eq_true, decide_eq_true_eq] at hl
          rw [UInt8.toNat_ofNat']
          omega
        · rw [if_neg q]; exact hc
      · exact keyF_no false r x h
theorem keyF_id : ∀ (l : List UInt8), (∀ x ∈ l, x.toNat ≠ 95) → keyF false l = l
  | [], _ => rfl
  | c :: r, h => by
    rw [keyF, if_neg (h c (by simp)), keyF_id r (fun x hx => h x (by simp [hx]))]
    simp
theorem keyF_len : ∀ (up : Bool) (l : List UInt8), (keyF up l).length ≤ l.length
  | up, [] => by simp [keyF]
  | up, c :: r => by
    rw [keyF]
    by_cases hc : c.toNat = 95
    · rw [if_pos hc]
      have := keyF_len true r
      simp; omega
    · rw [if_neg hc]
      have := keyF_len false r
      simp; omega

def kTab : List UInt8 := [97, 98, 99, 120, 121, 122, 48, 49, 56, 57]
def kC (x : UInt8) : UInt8 := kTab.getD (x.toNat % 10) 0
def kU (x : UInt8) : Bool := decide (x.toNat % 3 = 0) && decide (97 ≤ (kC x).toNat)
def kN (x : UInt8) : List UInt8 := if kU x then [95, kC x] else [kC x]
def kB (c : UInt8) : List UInt8 := if 65 ≤ c.toNat ∧ c.toNat ≤ 90 then [95, c - 65 + 97] else [c]
def kK (x : UInt8) : UInt8 := if kU x then UInt8.ofNat ((kC x).toNat - 32) else kC x
/-- The name that a text gives. -/
def kName (l : List UInt8) : List UInt8 := 97 :: l.flatMap kN
def kBack (l : List UInt8) : List UInt8 := l.flatMap kB

theorem fin8 {p : UInt8 → Bool} (h : ∀ n : Fin 256, p (UInt8.ofNat n.val) = true) (x : UInt8) : p x = true := by
  have := h ⟨x.toNat, x.toNat_lt⟩
  simpa using this
theorem kN_key (x : UInt8) (r : List UInt8) : keyF false (kN x ++ r) = kK x :: keyF false r := by
  have h1 : (!(kC x).toNat == 95) = true := fin8 (p := fun x => !(kC x).toNat == 95) (by decide +kernel) x
  have h2 : (!kU x || loZ (kC x).toNat) = true := fin8 (p := fun x => !kU x || loZ (kC x).toNat) (by decide +kernel) x
  have h1' : ¬ (kC x).toNat = 95 := by simpa using h1
  unfold kN kK
  cases hu : kU x
  · simp [keyF, h1']
  · have h3 : loZ (kC x).toNat = true := by rw [hu] at h2; simpa using h2
    simp [keyF, h1', h3]
theorem kK_back (x : UInt8) : kB (kK x) = kN x := by
  have := fin8 (p := fun x => decide (kB (kK x) = kN x)) (by decide +kernel) x
  simpa using this
theorem keyF_names : ∀ l : List UInt8, keyF false (l.flatMap kN) = l.map kK
  | [] => rfl
  | x :: l => by rw [List.flatMap_cons, kN_key, keyF_names l]; rfl
theorem name_back (l : List UInt8) : kBack (keyF false (kName l)) = kName l := by
  unfold kName
  rw [keyF, if_neg (by decide), keyF_names]
  show kB 97 ++ kBack (l.map kK) = _
  have : kBack (l.map kK) = l.flatMap kN := by
    unfold kBack
    rw [List.flatMap_map]
    congr 1
    funext x
    exact kK_back x
  rw [this]
  rfl
theorem kName_len (l : List UInt8) : (kName l).length ≤ 1 + 2 * l.length := by
  unfold kName
  induction l with
  | nil => simp
  | cons x l ih =>
    simp only [List.flatMap_cons, List.length_cons, List.length_append] at ih ⊢
    have : (kN x).length ≤ 2 := by unfold kN; split <;> simp
    omega
theorem kName_snoc (l : List UInt8) (x : UInt8) : kName (l ++ [x]) = kName l ++ kN x := by simp [kName]
theorem kBack_snoc (l : List UInt8) (x : UInt8) : kBack (l ++ [x]) = kBack l ++ kB x := by simp [kBack]
theorem kBack_len (l : List UInt8) : (kBack l).length ≤ 2 * l.length := by
  unfold kBack
  induction l with
  | nil => simp
  | cons x l ih =>
    simp only [List.flatMap_cons, List.length_cons, List.length_append] at ih ⊢
    have : (kB x).length ≤ 2 := by unfold kB; split <;> simp
    omega
end Go.Proofs.YtoineheocipmaaaGreatDoor
