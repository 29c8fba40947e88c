/-
  Letters, digits, identifiers.
  Key, and the document's Key.
  Plain mathematics of keys: no program.
  CopyBytes, EqBytes; Rune, and the document's Rune.
  A map with bytes as keys that the call made: what it has, as a list. escapes.
  escapes: the map of what may stand behind a backslash.
  digit, number: digits of a base.
-/
import Derived.Test.YthmdaejlopjjoaaGreatDoorWords
import Derived.Test.YthmdaejlopjjoaaGreatDoorShelf
import Derived.Test.YthmdaejlopjjoaaGreatDoorTmA
import Derived.Maps.Own
import Derived.Deep.DeepCutAuto
namespace Go.Proofs.YthmdaejlopjjoaaGreatDoor
section
open Go.RowKit
set_option linter.unusedVariables false

theorem isDigit_any (c : Int) (w : World) : Calls Tryz.prog 192 #[.int .u8 c] w fun e w' => e = .returned (.bool (dgZ c)) ∧ w = w' := by
  by_cases h1 : 48 ≤ c <;> by_cases h2 : c ≤ 57
  all_goals
    go_enter Tryz.func192, Tryz.ntmps192
    go_wp2
    go_ret
    exact ⟨ret_bool (by simp [dgZ, *]), rfl⟩
theorem isLower_any (c : Int) (w : World) : Calls Tryz.prog 210 #[.int .u8 c] w fun e w' => e = .returned (.bool (loZ c)) ∧ w = w' := by
  by_cases h1 : 97 ≤ c <;> by_cases h2 : c ≤ 122
  all_goals
    go_enter Tryz.func210, Tryz.ntmps210
    go_wp2
    go_ret
    exact ⟨ret_bool (by simp [loZ, *]), rfl⟩
theorem isLetter_any (c : Int) (w : World) : Calls Tryz.prog 193 #[.int .u8 c] w fun e w' => e = .returned (.bool (loZ c || upZ c)) ∧ w = w' := by
  have h := fun W => isLower_any c W
  have hu : upZ c = (decide (65 ≤ c) && decide (c ≤ 90)) := rfl
  generalize loZ c = a at *
  generalize upZ c = b at *
  have H := Lib.hid h
  clear h
  cases a
  · rcases (show c < 65 ∨ (65 ≤ c ∧ c ≤ 90) ∨ (65 ≤ c ∧ 90 < c) by omega) with h1 | ⟨h1, h2⟩ | ⟨h1, h2⟩
    all_goals
      have HU := Lib.hid hu
      clear hu
      go_enter Tryz.func193, Tryz.ntmps193
      go_wp2_with fail
      refine (H.out _).mono ?_
      rintro e _ ⟨rfl, rfl⟩
      go_wp2
      go_ret
      exact ⟨ret_bool (by rw [HU.out]; simp; try omega), rfl⟩
  · have HU := Lib.hid hu
    clear hu
    go_enter Tryz.func193, Tryz.ntmps193
    go_wp2_with fail
    refine (H.out _).mono ?_
    rintro e _ ⟨rfl, rfl⟩
    go_wp2
    go_ret
    exact ⟨rfl, rfl⟩
theorem small_any (c : Int) (w : World) : Calls Tryz.prog 189 #[.int .u8 c] w fun e w' => e = .returned (.bool (loZ c)) ∧ w = w' := by
  by_cases h1 : 97 ≤ c <;> by_cases h2 : c ≤ 122
  all_goals
    go_enter Tryz.func189, Tryz.ntmps189
    go_wp2
    go_ret
    exact ⟨ret_bool (by simp [loZ, *]), rfl⟩
theorem great_any (c : Int) (w : World) : Calls Tryz.prog 190 #[.int .u8 c] w fun e w' => e = .returned (.bool (upZ c)) ∧ w = w' := by
  by_cases h1 : 65 ≤ c <;> by_cases h2 : c ≤ 90
  all_goals
    go_enter Tryz.func190, Tryz.ntmps190
    go_wp2
    go_ret
    exact ⟨ret_bool (by simp [upZ, *]), rfl⟩
theorem digit_any (c : Int) (w : World) : Calls Tryz.prog 191 #[.int .u8 c] w fun e w' => e = .returned (.bool (dgZ c)) ∧ w = w' := by
  by_cases h1 : 48 ≤ c <;> by_cases h2 : c ≤ 57
  all_goals
    go_enter Tryz.func191, Tryz.ntmps191
    go_wp2
    go_ret
    exact ⟨ret_bool (by simp [dgZ, *]), rfl⟩


theorem nth_take (l : List UInt8) (k : Nat) (h : k < l.length) : l.take (k + 1) = l.take k ++ [l[k]] := List.take_succ_eq_append_getElem h
theorem str_at (s : ByteArray) (k : Nat) (h : k < s.size) : s[k] = s.data.toList[k]'(by simpa using h) := rfl
theorem str_ne {s : ByteArray} (h : 0 < s.size) : s.toList.isEmpty = false ∧ ¬ s.toList = [] := by
  have : s.toList = s.data.toList := ByteArray.toList_eq s
  rw [this]
  have hl : 0 < s.data.toList.length := by simpa using h
  cases hq : s.data.toList with
  | nil => rw [hq] at hl; simp at hl
  | cons a b => simp
theorem str_nil {s : ByteArray} (h : s.size = 0) : s.toList.isEmpty = true ∧ s.toList = [] := by
  have e : s.toList = s.data.toList := ByteArray.toList_eq s
  have : s.data.toList = [] := List.eq_nil_of_length_eq_zero (by simpa using h)
  rw [e, this]; simp

set_option maxRecDepth 100000 in
set_option maxHeartbeats 1000000 in
theorem isIdent_any (s : ByteArray) (w : World) (hs : s.size ≤ maxLen) : Calls Tryz.prog 168 #[.string s] w fun e w' => e = .returned (.bool (identL s.data.toList)) ∧ w = w' := by
  unfold maxLen at hs
  have hsl : s.data.toList.length = s.size := by simp
  by_cases h0 : s.size = 0
  · have hn := (str_nil h0).1
    have hn2 := (str_nil h0).2
    have hl : s.data.toList = [] := List.eq_nil_of_length_eq_zero (by omega)
    have HL := Lib.hid hl
    clear hl hsl
    go_enter Tryz.func168, Tryz.ntmps168
    go_wp2
    go_ret
    exact ⟨ret_bool (by rw [HL.out]; rfl), rfl⟩
  have hp : 0 < s.size := by omega
  have hn := (str_ne hp).1
  have hn2 := (str_ne hp).2
  have hhead : (s.data.toList.headD 0) = s[0] := by
    rw [str_at s 0 hp, List.headD_eq_head?_getD, List.head?_eq_getElem?, List.getElem?_eq_getElem (by omega)]
    rfl
  have hne : s.data.toList.isEmpty = false := by
    cases hq : s.data.toList with
    | nil => rw [hq] at hsl; simp at hsl; omega
    | cons a b => rfl
  have hid : identL s.data.toList = (decide (s.size ≤ 32) && !dgZ (s[0].toNat : Nat) && s.data.toList.all fun x => idZ x.toNat) := by
    unfold identL; rw [hne, hsl, hhead]; rfl
  obtain ⟨R, hR⟩ : ∃ R, R = identL s.data.toList := ⟨_, rfl⟩
  rw [← hR] at hid ⊢
  have HID := Lib.hid hid
  clear hR hid hne hhead hsl
  by_cases h32 : s.size ≤ 32
  · have h32' : ¬ (32 : Int) < (s.size : Int) := by omega
    have hdg := fun W => isDigit_any (s[0].toNat : Nat) W
    obtain ⟨d, hd⟩ : ∃ d, dgZ (s[0].toNat : Nat) = d := ⟨_, rfl⟩
    simp only [hd] at hdg
    have HD := Lib.hid hdg
    have HDD := Lib.hid hd
    clear hdg hd
    cases d
    · go_enter Tryz.func168, Tryz.ntmps168
      go_wp2_with fail
      refine (HD.out _).mono ?_
      rintro e _ ⟨rfl, rfl⟩
      go_wp2_with fail
      go_loop [18] (fun j => ∃ k : Nat, j = .int .i64 k ∧ k ≤ s.size ∧ (s.data.toList.take k).all (fun x => idZ x.toNat) = true) (fun j => s.size - (intOf j).toNat)
      case atStart => exact ⟨0, rfl, by omega, by simp⟩
      case round =>
        obtain ⟨k, rfl, hk, hall⟩ := hrel
        have HA := Lib.hid hall
        clear hall
        by_cases hlt : k < s.size
        · have hlt' : (k : Int) < (s.size : Int) := by omega
          have hL := fun W => isLetter_any (s[k].toNat : Nat) W
          have hD := fun W => isDigit_any (s[k].toNat : Nat) W
          obtain ⟨c, hc⟩ : ∃ c : Int, ((s[k].toNat : Nat) : Int) = c := ⟨_, rfl⟩
          have HC := Lib.hid hc
          obtain ⟨a, ha⟩ : ∃ a, (loZ c || upZ c) = a := ⟨_, rfl⟩
          obtain ⟨b, hb⟩ : ∃ b, dgZ c = b := ⟨_, rfl⟩
          simp only [hc, ha] at hL
          simp only [hc, hb] at hD
          have HAA := Lib.hid ha
          have HBB := Lib.hid hb
          have HLL := Lib.hid hL
          have HDG := Lib.hid hD
          clear hL hD ha hb
          have hstep : ∀ q, idZ c = q → (s.data.toList.take (k + 1)).all (fun x => idZ x.toNat) = q := by
            intro q hq
            have hkl : k < s.data.toList.length := by simpa using hlt
            rw [nth_take _ _ hkl, List.all_append, HA.out]
            simp only [List.all_cons, List.all_nil, Bool.and_true, Bool.true_and]
            rw [← hq, ← HC.out, str_at s k hlt]
          have HST := Lib.hid hstep
          clear hstep
          cases a
          · cases b
            · by_cases h95 : c = 95
              · have e95 : (c != 95) = false := by simp [h95]
                have H95 := Lib.hid h95
                clear h95
                go_wp2_with fail
                refine (HLL.out _).mono ?_
                rintro e _ ⟨rfl, rfl⟩
                go_wp2_with fail
                refine (HDG.out _).mono ?_
                rintro e _ ⟨rfl, rfl⟩
                go_wp2_with fail
                go_round
                case rel => exact ⟨k + 1, by go_num, by omega, HST.out true (by unfold idZ; rw [H95.out]; decide)⟩
                case measure => simp [intOf]; omega
              · have e95 : (c != 95) = true := by simp [h95]
                have H95 := Lib.hid h95
                clear h95
                go_wp2_with fail
                refine (HLL.out _).mono ?_
                rintro e _ ⟨rfl, rfl⟩
                go_wp2_with fail
                refine (HDG.out _).mono ?_
                rintro e _ ⟨rfl, rfl⟩
                go_wp2
                go_ret
                have h1 := HST.out false (by unfold idZ; rw [HAA.out, HBB.out]; simp [H95.out])
                refine ⟨ret_bool ?_, rfl⟩
                rw [HID.out]
                have h2 : s.data.toList.all (fun x => idZ x.toNat) = false := by
                  rw [← List.take_append_drop (k + 1) s.data.toList, List.all_append, h1]; rfl
                rw [h2]; simp
            · go_wp2_with fail
              refine (HLL.out _).mono ?_
              rintro e _ ⟨rfl, rfl⟩
              go_wp2_with fail
              refine (HDG.out _).mono ?_
              rintro e _ ⟨rfl, rfl⟩
              go_wp2_with fail
              go_round
              case rel => exact ⟨k + 1, by go_num, by omega, HST.out true (by unfold idZ; rw [HAA.out, HBB.out]; rfl)⟩
              case measure => simp [intOf]; omega
          · go_wp2_with fail
            refine (HLL.out _).mono ?_
            rintro e _ ⟨rfl, rfl⟩
            go_wp2_with fail
            go_round
            case rel => exact ⟨k + 1, by go_num, by omega, HST.out true (by unfold idZ; rw [HAA.out]; rfl)⟩
            case measure => simp [intOf]; omega
        · go_wp2
          go_ret
          refine ⟨ret_bool ?_, rfl⟩
          have h2 := HA.out
          rw [List.take_of_length_le (by simp; omega)] at h2
          rw [HID.out, h2, HDD.out]
          simp; omega
    · go_enter Tryz.func168, Tryz.ntmps168
      go_wp2_with fail
      refine (HD.out _).mono ?_
      rintro e _ ⟨rfl, rfl⟩
      go_wp2
      go_ret
      exact ⟨ret_bool (by rw [HID.out, HDD.out]; simp), rfl⟩
  · have h32' : (32 : Int) < (s.size : Int) := by omega
    go_enter Tryz.func168, Tryz.ntmps168
    go_wp2
    go_ret
    exact ⟨ret_bool (by rw [HID.out]; simp; omega), rfl⟩
end
section
open Go.RowKit
set_option linter.unusedVariables false

theorem Tryz.info5k : (Tryz.prog.info? 5).map (fun i => (i.zero, i.size, i.bytes)) = some (some (.int .u8 0), 1, 1) := by kernel_rfl

/-- The key of bytes, behind an underscore or not. -/
def keyF : Bool → List UInt8 → List UInt8
  | _, [] => []
  | up, c :: r => if c.toNat = 95 then keyF true r else (if up && loZ c.toNat then UInt8.ofNat (c.toNat - 32) else c) :: keyF false r

def StrP (w : World) (l : List UInt8) (e : Ending) (w' : World) : Prop := e = .returned (.string ⟨l.toArray⟩) ∧ Below w.heap.size w w'

structure KeyR (w : World) (s : ByteArray) (K : List UInt8) (v : Value) (up : Bool) (k : Nat) (l : List UInt8) (wr : World) : Prop where
  own : Own wr w.heap.size v l
  fin : l ++ keyF up (s.data.toList.drop k) = K
  len : l.length ≤ k
  bel : Below w.heap.size w wr

theorem drop_at (s : ByteArray) (k : Nat) (h : k < s.size) : s.data.toList.drop k = s[k] :: s.data.toList.drop (k + 1) := by
  have hk : k < s.data.toList.length := by simpa using h
  rw [List.drop_eq_getElem_cons hk]; rfl

/-- A byte is joined. -/
theorem key_put {w wr w1 : World} {s : ByteArray} {K l : List UInt8} {v v1 : Value} {up : Bool} {k : Nat} {a : Int} {o : Obj} (h : KeyR w s K v up k l wr) (hk : k < s.size) (h95 : ¬ s[k].toNat = 95)
    (ha : a = if up && loZ s[k].toNat then (s[k].toNat : Int) - 32 else s[k].toNat) (hown : Own w1 w.heap.size v1 (l ++ [UInt8.ofNat a.toNat])) (hg : Grew (wr.alloc o) w1 v v1) : KeyR w s K v1 false (k + 1) (l ++ [UInt8.ofNat a.toNat]) w1 := by
  have hb := h.bel
  refine ⟨hown, ?_, by have := h.len; simp; omega, (hb.alloc hb.size _).trans (hg.below (by have := hb.size; simp; omega) (fun g e => (h.own.lt e).1))⟩
  rw [← h.fin, drop_at s k hk, keyF, if_neg h95, List.append_assoc]
  congr 1
  show [_] ++ _ = _ :: _
  rw [ha]
  by_cases q : (up && loZ s[k].toNat) = true
  · rw [if_pos q, if_pos q]
    have : ((s[k].toNat : Int) - 32).toNat = s[k].toNat - 32 := by omega
    rw [this]; rfl
  · rw [if_neg q, if_neg q, Int.toNat_natCast]; simp
/-- An underscore is left out. -/
theorem key_skip {w wr : World} {s : ByteArray} {K l : List UInt8} {v : Value} {up : Bool} {k : Nat} (h : KeyR w s K v up k l wr) (hk : k < s.size) (h95 : s[k].toNat = 95) : KeyR w s K v true (k + 1) l wr := by
  refine ⟨h.own, ?_, by have := h.len; omega, h.bel⟩
  rw [← h.fin, drop_at s k hk, keyF, if_pos h95]
theorem key_end {w wr : World} {s : ByteArray} {K l : List UInt8} {v : Value} {up : Bool} {k : Nat} (h : KeyR w s K v up k l wr) (hk : ¬ k < s.size) : l = K := by
  have := h.fin
  rw [List.drop_eq_nil_of_le (by simp; omega), keyF, List.append_nil] at this
  exact this
end
section
set_option linter.unusedVariables false
set_option linter.unusedSimpArgs false

theorem keyF_no : ∀ (up : Bool) (l : List UInt8), ∀ x ∈ keyF up l, x.toNat ≠ 95
  | up, [], x, h => by simp [keyF] at h
  | up, c :: r, x, h => by
    rw [keyF] at h
    by_cases hc : c.toNat = 95
    · rw [if_pos hc] at h
      exact keyF_no true r x h
    · rw [if_neg hc] at h
      rcases List.mem_cons.1 h with rfl | h
      · by_cases q : (up && loZ c.toNat) = true
        · rw [if_pos q]
          have hl : loZ c.toNat = true := by revert q; cases up <;> simp
          have hc2 := c.toNat_lt
          simp only [loZ, Bool.and_eq_true, decide_eq_true_eq] at hl
          rw [UInt8.toNat_ofNat']
          omega
        · rw [if_neg q]; exact hc
      · exact keyF_no false r x h
theorem keyF_id : ∀ (l : List UInt8), (∀ x ∈ l, x.toNat ≠ 95) → keyF false l = l
  | [], _ => rfl
  | c :: r, h => by
    rw [keyF, if_neg (h c (by simp)), keyF_id r (fun x hx => h x (by simp [hx]))]
    simp
theorem keyF_len : ∀ (up : Bool) (l : List UInt8), (keyF up l).length ≤ l.length
  | up, [] => by simp [keyF]
  | up, c :: r => by
    rw [keyF]
    by_cases hc : c.toNat = 95
    · rw [if_pos hc]
      have := keyF_len true r
      simp; omega
    · rw [if_neg hc]
      have := keyF_len false r
      simp; omega

def kTab : List UInt8 := [97, 98, 99, 120, 121, 122, 48, 49, 56, 57]
def kC (x : UInt8) : UInt8 := kTab.getD (x.toNat % 10) 0
def kU (x : UInt8) : Bool := decide (x.toNat % 3 = 0) && decide (97 ≤ (kC x).toNat)
def kN (x : UInt8) : List UInt8 := if kU x then [95, kC x] else [kC x]
def kB (c : UInt8) : List UInt8 := if 65 ≤ c.toNat ∧ c.toNat ≤ 90 then [95, c - 65 + 97] else [c]
def kK (x : UInt8) : UInt8 := if kU x then UInt8.ofNat ((kC x).toNat - 32) else kC x
/-- The name that a text gives. -/
def kName (l : List UInt8) : List UInt8 := 97 :: l.flatMap kN
def kBack (l : List UInt8) : List UInt8 := l.flatMap kB

theorem fin8 {p : UInt8 → Bool} (h : ∀ n : Fin 256, p (UInt8.ofNat n.val) = true) (x : UInt8) : p x = true := by
  have := h ⟨x.toNat, x.toNat_lt⟩
  simpa using this
theorem kN_key (x : UInt8) (r : List UInt8) : keyF false (kN x ++ r) = kK x :: keyF false r := by
  have h1 : (!(kC x).toNat == 95) = true := fin8 (p := fun x => !(kC x).toNat == 95) (by decide +kernel) x
  have h2 : (!kU x || loZ (kC x).toNat) = true := fin8 (p := fun x => !kU x || loZ (kC x).toNat) (by decide +kernel) x
  have h1' : ¬ (kC x).toNat = 95 := by simpa using h1
  unfold kN kK
  cases hu : kU x
  · simp [keyF, h1']
  · have h3 : loZ (kC x).toNat = true := by rw [hu] at h2; simpa using h2
    simp [keyF, h1', h3]
theorem kK_back (x : UInt8) : kB (kK x) = kN x := by
  have := fin8 (p := fun x => decide (kB (kK x) = kN x)) (by decide +kernel) x
  simpa using this
theorem keyF_names : ∀ l : List UInt8, keyF false (l.flatMap kN) = l.map kK
  | [] => rfl
  | x :: l => by rw [List.flatMap_cons, kN_key, keyF_names l]; rfl
theorem name_back (l : List UInt8) : kBack (keyF false (kName l)) = kName l := by
  unfold kName
  rw [keyF, if_neg (by decide), keyF_names]
  show kB 97 ++ kBack (l.map kK) = _
  have : kBack (l.map kK) = l.flatMap kN := by
    unfold kBack
    rw [List.flatMap_map]
    congr 1
    funext x
    exact kK_back x
  rw [this]
  rfl
theorem kName_len (l : List UInt8) : (kName l).length ≤ 1 + 2 * l.length := by
  unfold kName
  induction l with
  | nil => simp
  | cons x l ih =>
    simp only [List.flatMap_cons, List.length_cons, List.length_append] at ih ⊢
    have : (kN x).length ≤ 2 := by unfold kN; split <;> simp
    omega
theorem kName_snoc (l : List UInt8) (x : UInt8) : kName (l ++ [x]) = kName l ++ kN x := by simp [kName]
theorem kBack_snoc (l : List UInt8) (x : UInt8) : kBack (l ++ [x]) = kBack l ++ kB x := by simp [kBack]
theorem kBack_len (l : List UInt8) : (kBack l).length ≤ 2 * l.length := by
  unfold kBack
  induction l with
  | nil => simp
  | cons x l ih =>
    simp only [List.flatMap_cons, List.length_cons, List.length_append] at ih ⊢
    have : (kB x).length ≤ 2 := by unfold kB; split <;> simp
    omega
end
section
open Go.RowKit
open Go.Lib (byteCells byteCells_length byteCells_append)
set_option linter.unusedVariables false

set_option maxHeartbeats 400000 in
theorem copyBytes_any {w : World} {lo hi n c : Nat} {A : Option Addr} {l : List UInt8} (h : Bs w lo hi A n c l) (hl : l.length ≤ 2147483648) :
    Calls Tryz.prog 209 #[.slice A n c] w (Fresh w l) := by
  obtain ⟨i0, hi, hz0, hz1, hz2⟩ := info_parts Tryz.info5k
  have hn := Lib.hid h.len
  have hln : 0 + n ≤ 140737488355328 := by have := h.len; omega
  go_enter Tryz.func209, Tryz.ntmps209
  go_wp2_with (at_builtin; refine wpList_append_bs _ rfl _ _ 165 rfl i0 Tryz.underlying165 hi hz0 hz1 hz2 w.heap.size _ [] rfl (Own.nil _ _) _ _ _ _ _ _ rfl h hln (Nat.le_refl _) ?_; intro v1 w1 hown1 hgrow1)
  go_ret
  exact fresh_of_nil hown1 hgrow1

/-- Is a number a rune? -/
def rnB (n : Int) : Bool := decide ((0 ≤ n ∧ n < 55296) ∨ (57343 < n ∧ n ≤ 1114111))
theorem isRune_any (n : Int) (w : World) : Calls Tryz.prog 221 #[.int .i64 n] w fun e w' => e = .returned (.bool (rnB n)) ∧ w = w' := by
  rcases (show n < 0 ∨ (0 ≤ n ∧ n < 55296) ∨ (55296 ≤ n ∧ n ≤ 57343) ∨ (57343 < n ∧ n ≤ 1114111) ∨ 1114111 < n by omega) with h | ⟨h, h'⟩ | ⟨h, h'⟩ | ⟨h, h'⟩ | h
  all_goals
    go_enter Tryz.func221, Tryz.ntmps221
    go_wp2
    go_ret
    exact ⟨ret_bool (by unfold rnB; first | (simp; omega) | (rw [Bool.eq_iff_iff]; simp; omega)), rfl⟩
theorem risRune_any (n : Int) (w : World) : Calls Tryz.prog 208 #[.int .i64 n] w fun e w' => e = .returned (.bool (rnB n)) ∧ w = w' := by
  rcases (show n < 0 ∨ (0 ≤ n ∧ n < 55296) ∨ (55296 ≤ n ∧ n ≤ 57343) ∨ (57343 < n ∧ n ≤ 1114111) ∨ 1114111 < n by omega) with h | ⟨h, h'⟩ | ⟨h, h'⟩ | ⟨h, h'⟩ | h
  all_goals
    go_enter Tryz.func208, Tryz.ntmps208
    go_wp2
    go_ret
    exact ⟨ret_bool (by unfold rnB; first | (simp; omega) | (rw [Bool.eq_iff_iff]; simp; omega)), rfl⟩

/-- An answer of bytes and an error. -/
def BytesP (w : World) (R : Nat × List UInt8) (e : Ending) (w' : World) : Prop := ∃ v, e = .returned (.tuple #[v, .int .i64 R.1]) ∧ Own w' w.heap.size v R.2 ∧ Below w.heap.size w w'
def ruR (l : List UInt8) (n : Int) : Nat × List UInt8 := if rnB n then (0, l ++ Lib.encodeRune n) else (20, [])

/-- utf8.AppendRune onto bytes of the call's own. -/
theorem appendRune_any {w : World} {base : Nat} {v : Value} {l : List UInt8} {r : Int} (h0 : -2147483648 ≤ r) (h1 : r ≤ 2147483647) (ho : Own w base v l) (hl : l.length + 4 ≤ 140737488355328) (hb : base ≤ w.heap.size) :
    Calls Tryz.prog 222 #[v, .int .i32 r] w fun e w' => ∃ v', e = .returned v' ∧ Own w' base v' (l ++ Lib.encodeRune r) ∧ Below base w w' := by
  refine (Tryz.utf8_AppendRune_plain base v l.length (byteCells l) r h0 h1 w ho hl hb).mono fun e w' hp => ?_
  obtain ⟨v', rfl, h2, o, hg⟩ := hp
  refine ⟨v', rfl, ?_, ?_⟩
  · unfold Own
    rw [List.length_append, byteCells_append, Lib.byteCells_encodeRune, ← Lib.runeCells_length]
    exact h2
  · exact Below.grown ((Below.refl _ _).alloc hb _) hg (by simp; omega) (fun g e => (ho.lt e).1)

/-- Numbers that are bytes, written out. -/
theorem Bs.ints (w : World) (zs : List Int) (h : ∀ z ∈ zs, 0 ≤ z ∧ z < 256) (hl : zs.length ≤ 1000) :
    Bs (w.alloc (.cells (zs.map (Value.int .u8)).toArray 5)) w.heap.size (w.heap.size + 1) (some ⟨w.heap.size, 0, none⟩) zs.length zs.length (zs.map fun z => UInt8.ofNat z.toNat) := by
  have := Bs.lit w (zs.map fun z => UInt8.ofNat z.toNat) (by simpa using hl)
  have e : byteCells (zs.map fun z => UInt8.ofNat z.toNat) = zs.map (Value.int .u8) := by
    simp only [byteCells, List.map_map]
    apply List.map_congr_left
    intro z hz
    have := h z hz
    simp only [Function.comp]
    rw [ofNat_toNat8 this.1 this.2]
  rw [e] at this
  simpa using this

/-- Bytes by their numbers. -/
theorem enc_bytes (r : Int) : Lib.encodeRune r = (Lib.encodeRuneZ r).map fun x => UInt8.ofNat x.toNat := rfl

set_option maxRecDepth 100000 in
set_option maxHeartbeats 2000000 in
theorem rrune_any {w : World} {lo hi n c : Nat} {A : Option Addr} {l : List UInt8} (r : Int) (hB : Bs w lo hi A n c l) (hn : n ≤ 1000000) :
    Calls Tryz.prog 187 #[.slice A n c, .int .i64 r] w (BytesP w (ruR l r)) := by
  obtain ⟨i0, hi0, hz0, hz1, hz2⟩ := info_parts Tryz.info5k
  have hR : ruR l r = if rnB r then (0, l ++ Lib.encodeRune r) else (20, []) := rfl
  have hi := fun W => risRune_any r W
  have hrange : rnB r = true → (0 ≤ r ∧ r < 55296) ∨ (57343 < r ∧ r ≤ 1114111) := by unfold rnB; simp
  have hll := hB.len
  have hcp := copyBytes_any hB (by omega)
  generalize rnB r = b at *
  obtain ⟨R, hRR⟩ : ∃ R, R = ruR l r := ⟨_, rfl⟩
  rw [← hRR] at hR ⊢
  have HI := Lib.hid hi
  have HLL := Lib.hid hll
  have HCP := Lib.hid hcp
  clear hi hRR hll hcp hB
  cases b
  · have HR := Lib.hid hR
    clear hR
    go_enter Tryz.func187, Tryz.ntmps187
    go_wp2_with fail
    refine (HI.out _).mono ?_
    rintro e _ ⟨rfl, rfl⟩
    go_wp2
    go_ret2
    rw [HR.out]
    exact ⟨_, rfl, Own.nil _ _, Below.refl _ _⟩
  · have hrg := hrange rfl
    have HR := Lib.hid hR
    clear hR hrange
    have hr0 : 0 ≤ r := by omega
    have hr1 : r ≤ 1114111 := by omega
    rcases (show r < 128 ∨ (128 ≤ r ∧ r < 2048) ∨ (2048 ≤ r ∧ r < 65536) ∨ 65536 ≤ r by omega) with h | ⟨h, h'⟩ | ⟨h, h'⟩ | h
    · have he : Lib.encodeRune r = [UInt8.ofNat r.toNat] := by rw [enc_bytes, Lib.encodeRuneZ_one hr0 (by omega)]; rfl
      have HE := Lib.hid he
      have hm : r % 256 = r := by omega
      clear he hrg
      go_enter Tryz.func187, Tryz.ntmps187
      go_wp2_with fail
      refine (HI.out _).mono ?_
      rintro e _ ⟨rfl, rfl⟩
      go_wp2_with fail
      refine HCP.out.mono ?_
      rintro e w1 ⟨v1, rfl, ho1, hb1⟩
      have hs1 := hb1.size
      go_wp2_with (at_builtin; refine wpList_append_bs _ rfl _ _ 165 rfl i0 Tryz.underlying165 hi0 hz0 hz1 hz2 w.heap.size _ _ rfl (ho1.alloc _) _ _ _ _ _ _ rfl (Bs.single _ _ (by omega) (by omega)) (by have := HLL.out; omega) (by simp; omega) ?_; intro v2 w2 ho2 hg2)
      go_ret2
      rw [HR.out]
      refine ⟨_, rfl, ?_, (hb1.alloc hs1 _).trans (hg2.below (by simp; omega) (fun g e => (ho1.lt e).1))⟩
      simp only [if_true]
      rw [HE.out]; exact ho2
    · have he : Lib.encodeRune r = ([192 + r / 64, 128 + r % 64] : List Int).map fun z => UInt8.ofNat z.toNat := by rw [enc_bytes, Lib.encodeRuneZ_two h (by omega)]
      have HE := Lib.hid he
      have hbz : ∀ z ∈ ([192 + r / 64, 128 + r % 64] : List Int), 0 ≤ z ∧ z < 256 := by
        intro z hz
        simp only [List.mem_cons, List.mem_nil_iff, or_false] at hz
        omega
      have HBZ := Lib.hid hbz
      clear he hrg hbz
      go_enter Tryz.func187, Tryz.ntmps187
      go_wp2_with fail
      refine (HI.out _).mono ?_
      rintro e _ ⟨rfl, rfl⟩
      go_wp2_with fail
      refine HCP.out.mono ?_
      rintro e w1 ⟨v1, rfl, ho1, hb1⟩
      have hs1 := hb1.size
      go_wp2_with (at_builtin; refine wpList_append_bs _ rfl _ _ 165 rfl i0 Tryz.underlying165 hi0 hz0 hz1 hz2 w.heap.size _ _ rfl (ho1.alloc _) _ _ _ _ _ _ rfl (Bs.ints w1 [192 + r / 64, 128 + r % 64] HBZ.out (by simp)) (by have := HLL.out; simp; omega) (by simp; omega) ?_; intro v2 w2 ho2 hg2)
      go_ret2
      rw [HR.out]
      refine ⟨_, rfl, ?_, (hb1.alloc hs1 _).trans (hg2.below (by simp; omega) (fun g e => (ho1.lt e).1))⟩
      simp only [if_true]
      rw [HE.out]; exact ho2
    · have he : Lib.encodeRune r = ([224 + r / 4096, 128 + r / 64 % 64, 128 + r % 64] : List Int).map fun z => UInt8.ofNat z.toNat := by rw [enc_bytes, Lib.encodeRuneZ_three (by omega)]
      have HE := Lib.hid he
      have hbz : ∀ z ∈ ([224 + r / 4096, 128 + r / 64 % 64, 128 + r % 64] : List Int), 0 ≤ z ∧ z < 256 := by
        intro z hz
        simp only [List.mem_cons, List.mem_nil_iff, or_false] at hz
        omega
      have HBZ := Lib.hid hbz
      clear he hrg hbz
      go_enter Tryz.func187, Tryz.ntmps187
      go_wp2_with fail
      refine (HI.out _).mono ?_
      rintro e _ ⟨rfl, rfl⟩
      go_wp2_with fail
      refine HCP.out.mono ?_
      rintro e w1 ⟨v1, rfl, ho1, hb1⟩
      have hs1 := hb1.size
      go_wp2_with (at_builtin; refine wpList_append_bs _ rfl _ _ 165 rfl i0 Tryz.underlying165 hi0 hz0 hz1 hz2 w.heap.size _ _ rfl (ho1.alloc _) _ _ _ _ _ _ rfl (Bs.ints w1 [224 + r / 4096, 128 + r / 64 % 64, 128 + r % 64] HBZ.out (by simp)) (by have := HLL.out; simp; omega) (by simp; omega) ?_; intro v2 w2 ho2 hg2)
      go_ret2
      rw [HR.out]
      refine ⟨_, rfl, ?_, (hb1.alloc hs1 _).trans (hg2.below (by simp; omega) (fun g e => (ho1.lt e).1))⟩
      simp only [if_true]
      rw [HE.out]; exact ho2
    · have he : Lib.encodeRune r = ([240 + r / 262144, 128 + r / 4096 % 64, 128 + r / 64 % 64, 128 + r % 64] : List Int).map fun z => UInt8.ofNat z.toNat := by rw [enc_bytes, Lib.encodeRuneZ_four h hr1]
      have HE := Lib.hid he
      have hbz : ∀ z ∈ ([240 + r / 262144, 128 + r / 4096 % 64, 128 + r / 64 % 64, 128 + r % 64] : List Int), 0 ≤ z ∧ z < 256 := by
        intro z hz
        simp only [List.mem_cons, List.mem_nil_iff, or_false] at hz
        omega
      have HBZ := Lib.hid hbz
      clear he hrg hbz
      go_enter Tryz.func187, Tryz.ntmps187
      go_wp2_with fail
      refine (HI.out _).mono ?_
      rintro e _ ⟨rfl, rfl⟩
      go_wp2_with fail
      refine HCP.out.mono ?_
      rintro e w1 ⟨v1, rfl, ho1, hb1⟩
      have hs1 := hb1.size
      go_wp2_with (at_builtin; refine wpList_append_bs _ rfl _ _ 165 rfl i0 Tryz.underlying165 hi0 hz0 hz1 hz2 w.heap.size _ _ rfl (ho1.alloc _) _ _ _ _ _ _ rfl (Bs.ints w1 [240 + r / 262144, 128 + r / 4096 % 64, 128 + r / 64 % 64, 128 + r % 64] HBZ.out (by simp)) (by have := HLL.out; simp; omega) (by simp; omega) ?_; intro v2 w2 ho2 hg2)
      go_ret2
      rw [HR.out]
      refine ⟨_, rfl, ?_, (hb1.alloc hs1 _).trans (hg2.below (by simp; omega) (fun g e => (ho1.lt e).1))⟩
      simp only [if_true]
      rw [HE.out]; exact ho2
end
section
open Go.RowKit Go.Instr
set_option linter.unusedVariables false
set_option linter.unusedSimpArgs false

def pairOf (e : MapEntry) : Value × Value := (e.key, e.val)
def keyed (x : Int × Value) : Value × Value := (.int .u8 x.1, x.2)
/-- Block b is a map with these keys and elements, in this order. -/
def MapAt (w : World) (b : Nat) (xs : List (Int × Value)) : Prop := ∃ es cl, w.heap[b]? = some (.map es cl) ∧ es.toList.map pairOf = xs.map keyed
def lookL : List (Int × Value) → Int → Option Value
  | [], _ => none
  | x :: xs, z => if z = x.1 then some x.2 else lookL xs z

theorem findNow_look (z : Int) : ∀ (l : List MapEntry) (xs : List (Int × Value)) (i : Nat), l.map pairOf = xs.map keyed →
    (lookL xs z = none → findNow (.int .u8) (.int .u8 z) l i = some none) ∧ (∀ v, lookL xs z = some v → ∃ j, findNow (.int .u8) (.int .u8 z) l i = some (some (j, v)))
  | [], [], i, _ => ⟨fun _ => rfl, fun v h => by cases h⟩
  | e :: l, x :: xs, i, h => by
    simp only [List.map_cons, List.cons.injEq] at h
    obtain ⟨h1, h2⟩ := h
    have hk : e.key = .int .u8 x.1 := congrArg Prod.fst h1
    have hv : e.val = x.2 := congrArg Prod.snd h1
    have ih := findNow_look z l xs (i + 1) h2
    by_cases q : z = x.1
    · refine ⟨fun hn => ?_, fun v hs => ⟨i, ?_⟩⟩
      · rw [lookL, if_pos q] at hn; cases hn
      · rw [lookL, if_pos q] at hs
        injection hs with hs
        simp [findNow, sameNow, hk, q, hv, hs]
    · have hne : (z == x.1) = false := by simp [q]
      refine ⟨fun hn => ?_, fun v hs => ?_⟩
      · rw [lookL, if_neg q] at hn
        simp only [findNow, sameNow, hk, if_true, hne]
        exact ih.1 hn
      · rw [lookL, if_neg q] at hs
        obtain ⟨j, hj⟩ := ih.2 v hs
        exact ⟨j, by simp only [findNow, sameNow, hk, if_true, hne]; exact hj⟩

section
variable {P : Program} {w : World} {b : Nat} {xs : List (Int × Value)} {t kt et : TypeId}
/-- The world with another map in block b. -/
def mapPut (w : World) (b : Nat) (o : Obj) : World := { w with heap := w.heap.setIfInBounds b o }
theorem mapPut_size (w : World) (b : Nat) (o : Obj) : (mapPut w b o).heap.size = w.heap.size := by simp [mapPut]
theorem mapPut_other {w : World} {b i : Nat} {o : Obj} (h : i ≠ b) : (mapPut w b o).heap[i]? = w.heap[i]? := by simp [mapPut, Array.getElem?_setIfInBounds, Ne.symm h]
theorem mapPut_self {w : World} {b : Nat} {o : Obj} (h : b < w.heap.size) : (mapPut w b o).heap[b]? = some o := by simp [mapPut, Array.getElem?_setIfInBounds, h]

theorem run_check (hk : P.underlying kt = some (.int .u8)) (e : Bool) (N : Nat) (hN : 0 < N) (z : Int) (w : World) : (checkKey e N kt (.int .u8 z)).run P w = .ok () w := by
  cases N with
  | zero => omega
  | succ n => unfold checkKey; simp [run_underlying hk, Result.andThen]

theorem run_ins (hm : MapAt w b xs) (ht : P.underlying t = some (.map kt et)) (hk : P.underlying kt = some (.int .u8)) (z : Int) (v : Value) (hnew : lookL xs z = none) :
    ∃ w', (Instr.mapUpdate t (.map (some b)) (.int .u8 z) v).run P w = .ok () w' ∧ MapAt w' b (xs ++ [(z, v)]) ∧ w.grownBy w' (some b) := by
  obtain ⟨es, cl, hb, he⟩ := hm
  have hlt : b < w.heap.size := (Array.getElem?_eq_some_iff.1 hb).1
  have hf := (findNow_look z es.toList xs 0 he).1 hnew
  refine ⟨mapPut w b (.map (es.push ⟨.int .u8 z, v, cl⟩) (cl + 1)), ?_, ⟨_, _, mapPut_self hlt, ?_⟩, ⟨rfl, rfl, rfl, by rw [mapPut_size]; exact Nat.le_refl _, fun i _ hi => mapPut_other (fun e => hi (by rw [e]))⟩⟩
  · simp [Instr.mapUpdate, run_underlying ht, getObj, setObj, Sem.run, hb, run_check hk, run_underlying hk, findKey, hf, Result.andThen, mapPut]
  · rw [Array.toList_push, List.map_append, he, List.map_append]; rfl
theorem run_look (hm : MapAt w b xs) (ht : P.underlying t = some (.map kt et)) (hk : P.underlying kt = some (.int .u8)) (z : Int) (zero : Value) (hz : (zeroValue et).run P w = .ok zero w) :
    (Instr.lookup t (.map (some b)) (.int .u8 z) true).run P w = .ok (.tuple #[(lookL xs z).getD zero, .bool (lookL xs z).isSome]) w := by
  obtain ⟨es, cl, hb, he⟩ := hm
  have hf := findNow_look z es.toList xs 0 he
  cases hl : lookL xs z with
  | none =>
    have h1 := hf.1 hl
    simp [Instr.lookup, run_underlying ht, getObj, Sem.run, hb, run_check hk, run_underlying hk, findKey, h1, hz, Result.andThen]
  | some v =>
    obtain ⟨j, h1⟩ := hf.2 v hl
    simp [Instr.lookup, run_underlying ht, getObj, Sem.run, hb, run_check hk, run_underlying hk, findKey, h1, Result.andThen]

theorem wpList_ins {ops : Array Oper} {rest : List Oper} {o : Oper} {a : Act} {Q : Exit → Act → World → Prop} (hg : o.guard = none) (m x v : Operand) (t : TypeId) (hop : o.op = Op.insert t m x v)
    (kt et : TypeId) (ht : P.underlying t = some (.map kt et)) (hk : P.underlying kt = some (.int .u8)) (b : Nat) (xs : List (Int × Value)) (hm : a.eval m = .map (some b)) (hmap : MapAt w b xs) (z : Int) (val : Value) (hx : a.eval x = .int .u8 z) (hv : a.eval v = val) (hnew : lookL xs z = none)
    (hK : ∀ w', MapAt w' b (xs ++ [(z, val)]) → w.grownBy w' (some b) → wpList P ops Q rest (a.put o.dst undef) w') : wpList P ops Q (o :: rest) a w := by
  refine wpList_plain hg fun K' hK' => ?_
  obtain ⟨w', hrun, r1, r2⟩ := run_ins (P := P) hmap ht hk z val hnew
  unfold Oper.wp
  simp [execOp, hop, hm, hx, hv, hrun, Result.andThen]
  exact hK' _ _ (hK w' r1 r2)
end
end
section
open Go.RowKit Go.Maps
set_option linter.unusedVariables false
set_option linter.unusedSimpArgs false

/-- What the map has. -/
def escs : List (Int × Value) := [(97, .agg #[.int .u8 7, .int .i64 0, .int .i64 0, .int .i64 0, .int .i64 0, .bool false]), (98, .agg #[.int .u8 8, .int .i64 0, .int .i64 0, .int .i64 0, .int .i64 0, .bool false]), (102, .agg #[.int .u8 12, .int .i64 0, .int .i64 0, .int .i64 0, .int .i64 0, .bool false]), (110, .agg #[.int .u8 10, .int .i64 0, .int .i64 0, .int .i64 0, .int .i64 0, .bool false]), (114, .agg #[.int .u8 13, .int .i64 0, .int .i64 0, .int .i64 0, .int .i64 0, .bool false]), (116, .agg #[.int .u8 9, .int .i64 0, .int .i64 0, .int .i64 0, .int .i64 0, .bool false]), (118, .agg #[.int .u8 11, .int .i64 0, .int .i64 0, .int .i64 0, .int .i64 0, .bool false]), (92, .agg #[.int .u8 92, .int .i64 0, .int .i64 0, .int .i64 0, .int .i64 0, .bool false]), (39, .agg #[.int .u8 39, .int .i64 0, .int .i64 0, .int .i64 0, .int .i64 0, .bool false]), (34, .agg #[.int .u8 34, .int .i64 0, .int .i64 0, .int .i64 0, .int .i64 0, .bool false]), (63, .agg #[.int .u8 63, .int .i64 0, .int .i64 0, .int .i64 0, .int .i64 0, .bool false]), (48, .agg #[.int .u8 0, .int .i64 8, .int .i64 0, .int .i64 1, .int .i64 3, .bool false]), (49, .agg #[.int .u8 0, .int .i64 8, .int .i64 0, .int .i64 1, .int .i64 3, .bool false]), (50, .agg #[.int .u8 0, .int .i64 8, .int .i64 0, .int .i64 1, .int .i64 3, .bool false]), (51, .agg #[.int .u8 0, .int .i64 8, .int .i64 0, .int .i64 1, .int .i64 3, .bool false]), (52, .agg #[.int .u8 0, .int .i64 8, .int .i64 0, .int .i64 1, .int .i64 3, .bool false]), (53, .agg #[.int .u8 0, .int .i64 8, .int .i64 0, .int .i64 1, .int .i64 3, .bool false]), (54, .agg #[.int .u8 0, .int .i64 8, .int .i64 0, .int .i64 1, .int .i64 3, .bool false]), (55, .agg #[.int .u8 0, .int .i64 8, .int .i64 0, .int .i64 1, .int .i64 3, .bool false]), (120, .agg #[.int .u8 0, .int .i64 16, .int .i64 1, .int .i64 1, .int .i64 2, .bool false]), (88, .agg #[.int .u8 0, .int .i64 16, .int .i64 1, .int .i64 1, .int .i64 2, .bool false]), (117, .agg #[.int .u8 0, .int .i64 16, .int .i64 1, .int .i64 4, .int .i64 4, .bool true]), (85, .agg #[.int .u8 0, .int .i64 16, .int .i64 1, .int .i64 8, .int .i64 8, .bool true])]

theorem Blk.six {w : World} {g : Nat} {t : TypeId} {a b c d e f : Value} (h : Blk w g t #[a, b, c, d, e, f]) :
    w.cell? ⟨g, 0, none⟩ = some a ∧ w.cell? ⟨g, 1, none⟩ = some b ∧ w.cell? ⟨g, 2, none⟩ = some c ∧ w.cell? ⟨g, 3, none⟩ = some d ∧ w.cell? ⟨g, 4, none⟩ = some e ∧ w.cell? ⟨g, 5, none⟩ = some f :=
  ⟨h.cell 0, h.cell 1, h.cell 2, h.cell 3, h.cell 4, h.cell 5⟩

structure EscS (w W : World) (b : Nat) (xs : List (Int × Value)) : Prop where
  map_ : MapAt W b xs
  oct : Blk W w.heap.size 256 #[.int .u8 0, .int .i64 8, .int .i64 0, .int .i64 1, .int .i64 3, .bool false]
  hex : Blk W (w.heap.size + 1) 256 #[.int .u8 0, .int .i64 16, .int .i64 1, .int .i64 1, .int .i64 2, .bool false]
  bel : Below w.heap.size w W
  lt : w.heap.size + 2 ≤ b
theorem EscS.next {w W W' : World} {b : Nat} {xs ys : List (Int × Value)} (h : EscS w W b xs) (hm : MapAt W' b ys) (hg : W.grownBy W' (some b)) : EscS w W' b ys :=
  have hl := h.lt
  ⟨hm, h.oct.grown hg (by simp; omega), h.hex.grown hg (by simp; omega), h.bel.grown hg h.bel.size (fun g e => by injection e with e; omega), h.lt⟩
theorem EscS.start {w W0 : World} (ho : Blk W0 w.heap.size 256 #[.int .u8 0, .int .i64 8, .int .i64 0, .int .i64 1, .int .i64 3, .bool false]) (hx : Blk W0 (w.heap.size + 1) 256 #[.int .u8 0, .int .i64 16, .int .i64 1, .int .i64 1, .int .i64 2, .bool false]) (hb : Below w.heap.size w W0) (hz : W0.heap.size = w.heap.size + 2) : EscS w (W0.alloc (.map #[] 0)) W0.heap.size [] :=
  ⟨⟨#[], 0, heap_alloc_new _ _, rfl⟩, ho.alloc _, hx.alloc _, hb.alloc hb.size _, by omega⟩

set_option maxRecDepth 100000 in
set_option maxHeartbeats 2000000 in
theorem escapes_any (w : World) : Calls Tryz.prog 197 #[] w fun e w' => e = .returned (.map (some (w.heap.size + 1 + 1))) ∧ MapAt w' (w.heap.size + 1 + 1) escs ∧ Below w.heap.size w w' := by
  have ho := (Blk.new w 256 #[.int .u8 0, .int .i64 8, .int .i64 0, .int .i64 1, .int .i64 3, .bool false]).alloc (.cells #[.int .u8 0, .int .i64 16, .int .i64 1, .int .i64 1, .int .i64 2, .bool false] 256)
  have hx : Blk ((w.alloc (.cells #[.int .u8 0, .int .i64 8, .int .i64 0, .int .i64 1, .int .i64 3, .bool false] 256)).alloc (.cells #[.int .u8 0, .int .i64 16, .int .i64 1, .int .i64 1, .int .i64 2, .bool false] 256)) (w.heap.size + 1) 256 #[.int .u8 0, .int .i64 16, .int .i64 1, .int .i64 1, .int .i64 2, .bool false] := by
    have := Blk.new (w.alloc (.cells #[.int .u8 0, .int .i64 8, .int .i64 0, .int .i64 1, .int .i64 3, .bool false] 256)) 256 #[.int .u8 0, .int .i64 16, .int .i64 1, .int .i64 1, .int .i64 2, .bool false]
    simpa using this
  have hb0 : Below w.heap.size w ((w.alloc (.cells #[.int .u8 0, .int .i64 8, .int .i64 0, .int .i64 1, .int .i64 3, .bool false] 256)).alloc (.cells #[.int .u8 0, .int .i64 16, .int .i64 1, .int .i64 1, .int .i64 2, .bool false] 256)) := ((Below.refl _ _).alloc (Nat.le_refl _) _).alloc (by simp) _
  have hz : ((w.alloc (.cells #[.int .u8 0, .int .i64 8, .int .i64 0, .int .i64 1, .int .i64 3, .bool false] 256)).alloc (.cells #[.int .u8 0, .int .i64 16, .int .i64 1, .int .i64 1, .int .i64 2, .bool false] 256)).heap.size = w.heap.size + 2 := by simp
  have hmm := @run_makeMap Tryz.prog
  go_enter Tryz.func197, Tryz.ntmps197
  go_upto_region 3 with fail
  generalize (((w.alloc (.cells #[.int .u8 0, .int .i64 8, .int .i64 0, .int .i64 1, .int .i64 3, .bool false] 256)).alloc (.cells #[.int .u8 0, .int .i64 16, .int .i64 1, .int .i64 1, .int .i64 2, .bool false] 256))) = W0 at *
  have hS := EscS.start ho hx hb0 hz
  obtain ⟨a0, a1, a2, a3, a4, a5⟩ := hS.oct.six
  obtain ⟨b0, b1, b2, b3, b4, b5⟩ := hS.hex.six
  have HS := Lib.hid hS
  have HZ := Lib.hid hz
  clear hS hz ho hx hb0
  go_wp2_with (refine wpList_ins rfl _ _ _ 231 rfl 5 256 Tryz.underlying231 Tryz.underlying5 W0.heap.size _ rfl HS.out.map_ _ _ rfl rfl (by simp [lookL]) ?_; intro W hm hg; simp only [Act.eval, Array.getD_eq_getD_getElem?, List.getElem?_toArray, List.getElem?_cons_succ, List.getElem?_cons_zero, Option.getD_some] at hm; replace HS := Lib.hid (HS.out.next hm hg); clear hm hg a0 a1 a2 a3 a4 a5 b0 b1 b2 b3 b4 b5; obtain ⟨a0, a1, a2, a3, a4, a5⟩ := HS.out.oct.six; obtain ⟨b0, b1, b2, b3, b4, b5⟩ := HS.out.hex.six)
  go_ret
  have h2 : MapAt W W0.heap.size escs := HS.out.map_
  have hz := HZ.out
  rw [hz] at h2
  refine ⟨?_, h2, HS.out.bel⟩
  show Ending.returned (Value.map (some W0.heap.size)) = _
  rw [hz]
end
section
open Go.RowKit
set_option linter.unusedVariables false

/-- The value of a digit; 16: it is none. -/
def dgV (c : Int) : Int := if 48 ≤ c ∧ c ≤ 57 then c - 48 else if 97 ≤ c ∧ c ≤ 102 then c - 97 + 10 else if 65 ≤ c ∧ c ≤ 70 then c - 65 + 10 else 16
theorem dgV_range (c : Int) : 0 ≤ dgV c ∧ dgV c ≤ 16 := by
  unfold dgV
  repeat' split
  all_goals omega

set_option maxHeartbeats 1000000 in
theorem dig_any (c : Int) (w : World) (h0 : 0 ≤ c) (h1 : c < 256) : Calls Tryz.prog 245 #[.int .u8 c] w fun e w' => e = .returned (.int .i64 (dgV c)) ∧ w = w' := by
  have hd := fun W => isDigit_any c W
  have hz : dgZ c = (decide (48 ≤ c) && decide (c ≤ 57)) := rfl
  have hv : dgV c = if 48 ≤ c ∧ c ≤ 57 then c - 48 else if 97 ≤ c ∧ c ≤ 102 then c - 97 + 10 else if 65 ≤ c ∧ c ≤ 70 then c - 65 + 10 else 16 := rfl
  obtain ⟨V, hV⟩ : ∃ V, dgV c = V := ⟨_, rfl⟩
  rw [hV] at hv ⊢
  generalize dgZ c = b at *
  have HD := Lib.hid hd
  have HV := Lib.hid hv
  clear hd hV hv
  rcases (show (48 ≤ c ∧ c ≤ 57) ∨ (97 ≤ c ∧ c ≤ 102) ∨ (65 ≤ c ∧ c ≤ 70) ∨ c < 48 ∨ (58 ≤ c ∧ c < 65) ∨ (70 < c ∧ c < 97) ∨ 102 < c by omega) with ⟨h, h'⟩ | ⟨h, h'⟩ | ⟨h, h'⟩ | h | ⟨h, h'⟩ | ⟨h, h'⟩ | h
  · obtain rfl : b = true := by rw [hz]; simp [h, h']
    clear hz
    go_enter Tryz.func245, Tryz.ntmps245
    go_wp2_with fail
    refine (HD.out _).mono ?_
    rintro e _ ⟨rfl, rfl⟩
    go_wp2
    go_ret
    exact ⟨ret_int (by rw [HV.out, if_pos (by omega)]), rfl⟩
  all_goals
    have e : b = false := by rw [hz]; simp; omega
    subst e
    clear hz
    go_enter Tryz.func245, Tryz.ntmps245
    go_wp2_with fail
    refine (HD.out _).mono ?_
    rintro e _ ⟨rfl, rfl⟩
    go_wp2
    go_ret
    refine ⟨ret_int ?_, rfl⟩
    rw [HV.out, if_neg (by omega)]
    first | (rw [if_pos (by omega)]) | (rw [if_neg (by omega), if_pos (by omega)]) | (rw [if_neg (by omega), if_neg (by omega)])

/-- The number of the digits of a base, at most so many, and how many there are. -/
def nmF (base : Int) : Nat → Int → List UInt8 → Int × Nat
  | 0, n, _ => (n, 0)
  | k + 1, n, [] => (n, 0)
  | k + 1, n, c :: r => if dgV c.toNat < base then ((nmF base k (n * base + dgV c.toNat) r).1, (nmF base k (n * base + dgV c.toNat) r).2 + 1) else (n, 0)

structure NmRt (s : ByteArray) (base : Int) (most : Nat) (R : Int × Nat) (n : Int) (k : Nat) : Prop where
  fin : (nmF base (most - k) n (s.data.toList.drop k)).1 = R.1 ∧ (nmF base (most - k) n (s.data.toList.drop k)).2 + k = R.2
  lo : 0 ≤ n
  hi : n < 16 ^ k
theorem nm_step {s : ByteArray} {base : Int} {most : Nat} {R : Int × Nat} {n d : Int} {k : Nat} (h : NmRt s base most R n k) (hk : k < most) (hs : k < s.size) (hd : dgV (s[k].toNat : Nat) = d) (hlt : d < base) (hb : base ≤ 16) (hb0 : 0 ≤ base) (hd0 : 0 ≤ d) : NmRt s base most R (n * base + d) (k + 1) := by
  have hf := h.fin
  have e : most - k = (most - (k + 1)) + 1 := by omega
  rw [drop_at s k hs, e, nmF, hd, if_pos hlt] at hf
  refine ⟨⟨hf.1, by have := hf.2; simp only at this; omega⟩, ?_, ?_⟩
  · have := Int.mul_nonneg h.lo hb0; omega
  · have h1 : n * base ≤ n * 16 := Int.mul_le_mul_of_nonneg_left hb h.lo
    have h2 := h.hi
    rw [Int.pow_succ]
    omega
theorem nm_end {s : ByteArray} {base : Int} {most : Nat} {R : Int × Nat} {n : Int} {k : Nat} (h : NmRt s base most R n k) (hd : ¬ k < most ∨ ¬ k < s.size ∨ ∃ hs : k < s.size, ¬ dgV (s[k].toNat : Nat) < base) : R = (n, k) := by
  have hf := h.fin
  have : nmF base (most - k) n (s.data.toList.drop k) = (n, 0) := by
    rcases hd with hd | hd | ⟨hs, hd⟩
    · rw [show most - k = 0 by omega, nmF]
    · rw [List.drop_eq_nil_of_le (by simp; omega)]
      cases most - k <;> rfl
    · rw [drop_at s k hs]
      cases most - k with
      | zero => rfl
      | succ q => rw [nmF, if_neg hd]
  rw [this] at hf
  obtain ⟨h1, h2⟩ := hf
  simp only at h1 h2
  rw [h1]
  ext
  · rfl
  · simp only; omega
theorem pow16 (k : Nat) (h : k ≤ 7) : (16 : Int) ^ k ≤ 268435456 := by
  have : ∀ q : Fin 8, (16 : Int) ^ q.val ≤ 268435456 := by decide
  exact this ⟨k, by omega⟩

set_option maxRecDepth 100000 in
set_option maxHeartbeats 1000000 in
theorem number_t (s : ByteArray) (base : Int) (most : Nat) (w : World) (hb : base = 8 ∨ base = 16) (hm : most ≤ 8) (hsz : s.size ≤ 1000000) :
    Calls Tryz.prog 220 #[.string s, .int .i64 base, .int .i64 most] w fun e w' => e = .returned (.tuple #[.int .i64 (nmF base most 0 s.data.toList).1, .int .i64 ((nmF base most 0 s.data.toList).2 : Nat)]) ∧ w = w' := by
  obtain ⟨R, hR⟩ : ∃ R, R = nmF base most 0 s.data.toList := ⟨_, rfl⟩
  rw [← hR]
  have hst : NmRt s base most R 0 0 := ⟨by rw [List.drop_zero, Nat.sub_zero, ← hR]; exact ⟨rfl, rfl⟩, by omega, by decide⟩
  have hb0 : 0 ≤ base := by omega
  have hb1 : base ≤ 16 := by omega
  clear hR
  rcases hb with rfl | rfl
  · go_enter Tryz.func220, Tryz.ntmps220
    go_wp2
    go_loop [6, 7] (fun a j => ∃ (n : Int) (k : Nat), a = .int .i64 n ∧ j = .int .i64 k ∧ k ≤ most ∧ NmRt s _ most R n k) (fun _ j => most - (intOf j).toNat)
    case atStart => exact ⟨0, 0, rfl, rfl, by omega, hst⟩
    case round =>
      obtain ⟨n, k, rfl, rfl, hk, hrel⟩ := hrel
      clear hst
      have HREL := Lib.hid hrel
      have hn0 := hrel.lo
      have hn1 := hrel.hi
      clear hrel
      by_cases hlt : k < most
      · have hlt' : (k : Int) < (most : Int) := by omega
        have hp := pow16 k (by omega)
        have hn2 : n ≤ 268435455 := by omega
        clear hp hn1
        by_cases hs : k < s.size
        · have hs' : (k : Int) < (s.size : Int) := by omega
          have hk0 : (0 : Int) ≤ (k : Int) := by omega
          have hcb := s[k].toNat_lt
          have hdg := fun W => dig_any (s[k].toNat : Nat) W (by omega) (by omega)
          have hrg := dgV_range (s[k].toNat : Nat)
          obtain ⟨d, hd⟩ : ∃ d, dgV (s[k].toNat : Nat) = d := ⟨_, rfl⟩
          rw [hd] at hrg
          simp only [hd] at hdg
          have HD := Lib.hid hdg
          have HDD := Lib.hid hd
          have hd0 := hrg.1
          have hd1 := hrg.2
          clear hdg hd hrg
          by_cases hdb : d < 8
          · go_wp2_with fail
            refine (HD.out _).mono ?_
            rintro e _ ⟨rfl, rfl⟩
            go_wp2_with fail
            refine (HD.out _).mono ?_
            rintro e _ ⟨rfl, rfl⟩
            go_wp2_with fail
            go_round
            case rel => exact ⟨_, k + 1, rfl, by go_num, by omega, nm_step HREL.out hlt hs HDD.out hdb hb1 hb0 hd0⟩
            case measure => simp [intOf]; omega
          · go_wp2_with fail
            refine (HD.out _).mono ?_
            rintro e _ ⟨rfl, rfl⟩
            go_wp2
            go_ret2
            have he := nm_end HREL.out (.inr (.inr ⟨hs, by rw [HDD.out]; omega⟩))
            rw [he]
            exact ⟨rfl, rfl⟩
        · have hs' : ¬ (k : Int) < (s.size : Int) := by omega
          go_wp2
          go_ret2
          have he := nm_end HREL.out (.inr (.inl hs))
          rw [he]
          exact ⟨rfl, rfl⟩
      · have hlt' : ¬ (k : Int) < (most : Int) := by omega
        go_wp2
        go_ret2
        have he := nm_end HREL.out (.inl hlt)
        rw [he]
        exact ⟨rfl, rfl⟩
  · go_enter Tryz.func220, Tryz.ntmps220
    go_wp2
    go_loop [6, 7] (fun a j => ∃ (n : Int) (k : Nat), a = .int .i64 n ∧ j = .int .i64 k ∧ k ≤ most ∧ NmRt s _ most R n k) (fun _ j => most - (intOf j).toNat)
    case atStart => exact ⟨0, 0, rfl, rfl, by omega, hst⟩
    case round =>
      obtain ⟨n, k, rfl, rfl, hk, hrel⟩ := hrel
      clear hst
      have HREL := Lib.hid hrel
      have hn0 := hrel.lo
      have hn1 := hrel.hi
      clear hrel
      by_cases hlt : k < most
      · have hlt' : (k : Int) < (most : Int) := by omega
        have hp := pow16 k (by omega)
        have hn2 : n ≤ 268435455 := by omega
        clear hp hn1
        by_cases hs : k < s.size
        · have hs' : (k : Int) < (s.size : Int) := by omega
          have hk0 : (0 : Int) ≤ (k : Int) := by omega
          have hcb := s[k].toNat_lt
          have hdg := fun W => dig_any (s[k].toNat : Nat) W (by omega) (by omega)
          have hrg := dgV_range (s[k].toNat : Nat)
          obtain ⟨d, hd⟩ : ∃ d, dgV (s[k].toNat : Nat) = d := ⟨_, rfl⟩
          rw [hd] at hrg
          simp only [hd] at hdg
          have HD := Lib.hid hdg
          have HDD := Lib.hid hd
          have hd0 := hrg.1
          have hd1 := hrg.2
          clear hdg hd hrg
          by_cases hdb : d < 16
          · go_wp2_with fail
            refine (HD.out _).mono ?_
            rintro e _ ⟨rfl, rfl⟩
            go_wp2_with fail
            refine (HD.out _).mono ?_
            rintro e _ ⟨rfl, rfl⟩
            go_wp2_with fail
            go_round
            case rel => exact ⟨_, k + 1, rfl, by go_num, by omega, nm_step HREL.out hlt hs HDD.out hdb hb1 hb0 hd0⟩
            case measure => simp [intOf]; omega
          · go_wp2_with fail
            refine (HD.out _).mono ?_
            rintro e _ ⟨rfl, rfl⟩
            go_wp2
            go_ret2
            have he := nm_end HREL.out (.inr (.inr ⟨hs, by rw [HDD.out]; omega⟩))
            rw [he]
            exact ⟨rfl, rfl⟩
        · have hs' : ¬ (k : Int) < (s.size : Int) := by omega
          go_wp2
          go_ret2
          have he := nm_end HREL.out (.inr (.inl hs))
          rw [he]
          exact ⟨rfl, rfl⟩
      · have hlt' : ¬ (k : Int) < (most : Int) := by omega
        go_wp2
        go_ret2
        have he := nm_end HREL.out (.inl hlt)
        rw [he]
        exact ⟨rfl, rfl⟩
end
end Go.Proofs.YthmdaejlopjjoaaGreatDoor
