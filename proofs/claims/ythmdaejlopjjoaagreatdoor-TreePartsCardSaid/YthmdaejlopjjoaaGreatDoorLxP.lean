/-
  strconv.ParseUint of digits, in bases 8, 10 and 16 (64 bits).
  lex: what a number's value is.
-/
import Derived.Test.YthmdaejlopjjoaaGreatDoorLxA
import Derived.Test.YthmdaejlopjjoaaGreatDoorKyA
import Derived.Lib.ConvBytes
import Derived.Deep.DeepCutAuto
import Derived.Deep.CutBlock
import Derived.Deep.LoopGhost
import Derived.Outline
import Derived.Lib.SlTrimSet
import Derived.WalkSpells
namespace Go.Proofs.YthmdaejlopjjoaaGreatDoor
section
open Go.RowKit
set_option linter.unusedVariables false
set_option linter.unusedSimpArgs false

/-- The number that digits tell. -/
def pv (base : Int) (l : List UInt8) : Int := l.foldl (fun n c => n * base + dgV c.toNat) 0
theorem pv_snoc (base : Int) (l : List UInt8) (c : UInt8) : pv base (l ++ [c]) = pv base l * base + dgV c.toNat := by simp [pv]
theorem pv_fold (base : Int) (hb : 1 ≤ base) : ∀ (l : List UInt8) (n : Int), 0 ≤ n → n ≤ l.foldl (fun n c => n * base + dgV c.toNat) n
  | [], n, _ => by simp
  | c :: r, n, h => by
    have h1 := (dgV_range c.toNat).1
    have h2 : n ≤ n * base := by
      have := Int.mul_le_mul_of_nonneg_left hb h
      simpa using this
    have := pv_fold base hb r (n * base + dgV c.toNat) (by omega)
    rw [List.foldl_cons]
    omega
theorem pv_nonneg (base : Int) (hb : 1 ≤ base) (l : List UInt8) : 0 ≤ pv base l := pv_fold base hb l 0 (by omega)
theorem pv_mono (base : Int) (hb : 1 ≤ base) (l r : List UInt8) : pv base l ≤ pv base (l ++ r) := by
  unfold pv
  rw [List.foldl_append]
  exact pv_fold base hb r _ (pv_nonneg base hb l)
def lowOk (n : Fin 256) : Bool := if (97 ≤ n.val ∧ n.val ≤ 102) ∨ (65 ≤ n.val ∧ n.val ≤ 70) then decide (bits .or .u8 (n.val : Int) 32 = dgV (n.val : Int) + 87) else true
theorem low_ok (n : Fin 256) : lowOk n = true := by
  have : ∀ n : Fin 256, lowOk n = true := by decide +kernel
  exact this n
theorem low_any (c : UInt8) (w : World) (h : (97 ≤ c.toNat ∧ c.toNat ≤ 102) ∨ (65 ≤ c.toNat ∧ c.toNat ≤ 70)) : Calls Tryz.prog 239 #[.int .u8 (c.toNat : Nat)] w fun e w' => e = .returned (.int .u8 (dgV (c.toNat : Nat) + 87)) ∧ w = w' := by
  have hk := low_ok ⟨c.toNat, c.toNat_lt⟩
  unfold lowOk at hk
  rw [if_pos h] at hk
  refine (Tryz.internal_strconv_lower (c.toNat : Nat) w).mono fun e w' ⟨h1, h2⟩ => ⟨?_, h2.symm⟩
  rw [h1]
  congr 2
  simpa using hk
/-- What ParseUint answers of digits. -/
def PuP (w : World) (V : Int) (e : Ending) (w' : World) : Prop := ∃ (x : Int) (ev : Value), e = .returned (.tuple #[.int .u64 x, ev]) ∧ Below w.heap.size w w' ∧ ((ev = .nilIface ∧ x = V ∧ V < 18446744073709551616) ∨ (ev = .iface 267 (.int .i64 1) ∧ 18446744073709551616 ≤ V))
theorem below_bytes (w : World) (s : ByteArray) : Below w.heap.size w (Lib.bytesWorld w 5 s) :=
  ⟨rfl, rfl, rfl, by rw [Lib.bytesWorld_size]; omega, fun i hi => Lib.bytesWorld_at_old w 5 s i hi⟩

set_option maxRecDepth 100000 in
set_option maxHeartbeats 1000000 in
theorem pu8_any (s : ByteArray) (w : World) (h0 : 0 < s.size) (hs : s.size ≤ 1000000) (hd : ∀ x ∈ s.data.toList, dgV x.toNat < 8) :
    Calls Tryz.prog 218 #[.string s, .int .i64 8, .int .i64 64] w (PuP w (pv 8 s.data.toList)) := by
  have hcv := fun W => Lib.run_convert_string_bytes (P := Tryz.prog) W 9 165 5 s Tryz.underlying9 Tryz.underlying165 Tryz.underlying5
  have hse : s.toList.isEmpty = false := (str_ne h0).1
  have hsn : ¬ s.toList = [] := (str_ne h0).2
  have HD := Lib.hid hd
  obtain ⟨V, hV⟩ : ∃ V, pv 8 s.data.toList = V := ⟨_, rfl⟩
  rw [hV]
  have HV := Lib.hid hV
  have hlow := Lib.hid low_any
  have hmx : IntKind.u64.wrap (IntKind.u64.wrap 18446744073709551616 - 1) = 18446744073709551615 := by decide
  have hbc := fun j (hj : j < s.size) => Lib.bytesWorld_cell w 5 s j hj
  have hbb := below_bytes w s
  have HBC := Lib.hid hbc
  have HBB := Lib.hid hbb
  clear hd hV hbc hbb
  go_enter Tryz.func218, Tryz.ntmps218
  go_wp2_with fail
  generalize Lib.bytesWorld w 5 s = wb at *
  clear hcv hmx hse hsn
  go_loopg [12, 13, 101] s.size (fun g us v j wr => ∃ (n : Int) (k : Nat), wb = wr ∧ us = .bool false ∧ v = .int .u64 n ∧ j = .int .i64 k ∧ g = s.size - k ∧ k ≤ s.size ∧ n = pv 8 (s.data.toList.take k) ∧ 0 ≤ n ∧ n < 18446744073709551616)
  case atStart => exact ⟨0, 0, rfl, rfl, rfl, rfl, by omega, by omega, rfl, by omega, by omega⟩
  case round =>
    obtain ⟨n, k, rfl, rfl, rfl, rfl, rfl, hk, hn, hn0, hn1⟩ := hrel
    have HN := Lib.hid hn
    clear hn
    have hk0 : (0 : Int) ≤ (k : Int) := by omega
    by_cases hlt : k < s.size
    · have hlt' : (k : Int) < (s.size : Int) := by omega
      have hcell := HBC.out k hlt
      have hgd : s.data.toList.getD k 0 = s[k] := by
        rw [List.getD_eq_getElem?_getD, List.getElem?_eq_getElem (by simpa using hlt)]; rfl
      rw [hgd] at hcell
      have hmem : s[k] ∈ s.data.toList := by rw [str_at s k hlt]; exact List.getElem_mem _
      have hdk := HD.out s[k] hmem
      have htk : s.data.toList.take (k + 1) = s.data.toList.take k ++ [s[k]] := nth_take s.data.toList k (by simpa using hlt)
      have hmono : pv 8 (s.data.toList.take (k + 1)) ≤ V := by
        rw [← HV.out]
        have := pv_mono 8 (by omega) (s.data.toList.take (k + 1)) (s.data.toList.drop (k + 1))
        rwa [List.take_append_drop] at this
      rw [htk, pv_snoc, ← HN.out] at hmono
      have hnext : n * 8 + dgV (s[k].toNat : Nat) = pv 8 (s.data.toList.take (k + 1)) := by rw [htk, pv_snoc, ← HN.out]
      generalize s[k] = c at *
      have hc8 := c.toNat_lt
      have hrg := dgV_range (c.toNat : Nat)
      have hlw := fun W h => hlow.out c W h
      have hdv : dgV (c.toNat : Nat) = if 48 ≤ (c.toNat : Int) ∧ (c.toNat : Int) ≤ 57 then (c.toNat : Int) - 48 else if 97 ≤ (c.toNat : Int) ∧ (c.toNat : Int) ≤ 102 then (c.toNat : Int) - 97 + 10 else if 65 ≤ (c.toNat : Int) ∧ (c.toNat : Int) ≤ 70 then (c.toNat : Int) - 65 + 10 else 16 := rfl
      generalize dgV (c.toNat : Nat) = d at *
      have HLW := Lib.hid hlw
      have HNX := Lib.hid hnext
      have HMO := Lib.hid hmono
      have hcls : (48 ≤ c.toNat ∧ c.toNat ≤ 57 ∧ d = (c.toNat : Int) - 48) ∨ (¬ c.toNat ≤ 57 ∧ ((97 ≤ c.toNat ∧ c.toNat ≤ 102) ∨ (65 ≤ c.toNat ∧ c.toNat ≤ 70)) ∧ 10 ≤ d) := by
        by_cases q1 : 48 ≤ (c.toNat : Int) ∧ (c.toNat : Int) ≤ 57
        · rw [if_pos q1] at hdv; left; omega
        · rw [if_neg q1] at hdv
          by_cases q2 : 97 ≤ (c.toNat : Int) ∧ (c.toNat : Int) ≤ 102
          · rw [if_pos q2] at hdv; right; omega
          · rw [if_neg q2] at hdv
            by_cases q3 : 65 ≤ (c.toNat : Int) ∧ (c.toNat : Int) ≤ 70
            · rw [if_pos q3] at hdv; right; omega
            · rw [if_neg q3] at hdv; omega
      have h95 : ((c.toNat : Int) == 95) = false := by simp only [beq_eq_false_iff_ne, ne_eq]; omega
      obtain ⟨hd0, hd16⟩ := hrg
      clear hdv hmono hnext hlw htk hgd hmem
      have hq : ¬ d < 0 := by omega
      have hcls2 := Lib.hid hcls
      clear hcls
      go_upto_block 5 with fail
      go_cut [12, 16] (fun us v wx => us = .bool false ∧ v = .int .u8 d ∧ wb = wx)
      case first =>
        rcases hcls2.out with ⟨g1, g2, g3⟩ | ⟨g1, g2, g3⟩
        · have g1' : (48 : Int) ≤ (c.toNat : Int) := by omega
          have g2' : (c.toNat : Int) ≤ 57 := by omega
          have g4 : (c.toNat : Int) - 48 = d := by omega
          clear g3 g1 g2
          go_wp2_with fail
          go_meet
          exact ⟨rfl, rfl, rfl⟩
        · exfalso; omega
      case rest =>
        obtain ⟨rfl, rfl, rfl⟩ := hcut
        have hdb : ¬ 8 ≤ d := by omega
        by_cases hcut2 : 2305843009213693952 ≤ n
        · have hVV : 18446744073709551616 ≤ V := by have := HMO.out; omega
          have HVV := Lib.hid hVV
          clear hVV
          go_wp2_with fail
          go_ret2
          exact ⟨_, _, rfl, HBB.out, .inr ⟨rfl, HVV.out⟩⟩
        · have hm1 : n * 8 < 18446744073709551616 := by omega
          have hm0 : 0 ≤ n * 8 := by omega
          have hw0 : ¬ 18446744073709551615 < n * 8 + d := by omega
          have hw1 : ¬ n * 8 + d < n * 8 := by omega
          have hw2 : 0 ≤ n * 8 + d := by omega
          have hw3 : n * 8 + d < 18446744073709551616 := by omega
          have hw4 : IntKind.u64.wrap (n * 8 + d) = n * 8 + d := IntWalk.u64_in _ (by omega)
          go_wp2_with fail
          go_roundg (s.size - (k + 1))
          case measure => omega
          case rel => exact ⟨_, k + 1, rfl, rfl, rfl, by go_num, rfl, by omega, HNX.out, hw2, hw3⟩
    · have hlt' : ¬ (k : Int) < (s.size : Int) := by omega
      have hfin : n = V := by
        rw [HN.out, List.take_of_length_le (by simp; omega)]
        exact HV.out
      have HF := Lib.hid hfin
      clear hfin
      go_wp2_with fail
      go_ret2
      exact ⟨_, _, rfl, HBB.out, .inl ⟨rfl, HF.out, by rw [← HF.out]; exact hn1⟩⟩
set_option maxRecDepth 100000 in
set_option maxHeartbeats 1000000 in
theorem pu16_any (s : ByteArray) (w : World) (h0 : 0 < s.size) (hs : s.size ≤ 1000000) (hd : ∀ x ∈ s.data.toList, dgV x.toNat < 16) :
    Calls Tryz.prog 218 #[.string s, .int .i64 16, .int .i64 64] w (PuP w (pv 16 s.data.toList)) := by
  have hcv := fun W => Lib.run_convert_string_bytes (P := Tryz.prog) W 9 165 5 s Tryz.underlying9 Tryz.underlying165 Tryz.underlying5
  have hse : s.toList.isEmpty = false := (str_ne h0).1
  have hsn : ¬ s.toList = [] := (str_ne h0).2
  have HD := Lib.hid hd
  obtain ⟨V, hV⟩ : ∃ V, pv 16 s.data.toList = V := ⟨_, rfl⟩
  rw [hV]
  have HV := Lib.hid hV
  have hlow := Lib.hid low_any
  have hmx : IntKind.u64.wrap (IntKind.u64.wrap 18446744073709551616 - 1) = 18446744073709551615 := by decide
  have hbc := fun j (hj : j < s.size) => Lib.bytesWorld_cell w 5 s j hj
  have hbb := below_bytes w s
  have HBC := Lib.hid hbc
  have HBB := Lib.hid hbb
  clear hd hV hbc hbb
  go_enter Tryz.func218, Tryz.ntmps218
  go_wp2_with fail
  generalize Lib.bytesWorld w 5 s = wb at *
  clear hcv hmx hse hsn
  go_loopg [12, 13, 101] s.size (fun g us v j wr => ∃ (n : Int) (k : Nat), wb = wr ∧ us = .bool false ∧ v = .int .u64 n ∧ j = .int .i64 k ∧ g = s.size - k ∧ k ≤ s.size ∧ n = pv 16 (s.data.toList.take k) ∧ 0 ≤ n ∧ n < 18446744073709551616)
  case atStart => exact ⟨0, 0, rfl, rfl, rfl, rfl, by omega, by omega, rfl, by omega, by omega⟩
  case round =>
    obtain ⟨n, k, rfl, rfl, rfl, rfl, rfl, hk, hn, hn0, hn1⟩ := hrel
    have HN := Lib.hid hn
    clear hn
    have hk0 : (0 : Int) ≤ (k : Int) := by omega
    by_cases hlt : k < s.size
    · have hlt' : (k : Int) < (s.size : Int) := by omega
      have hcell := HBC.out k hlt
      have hgd : s.data.toList.getD k 0 = s[k] := by
        rw [List.getD_eq_getElem?_getD, List.getElem?_eq_getElem (by simpa using hlt)]; rfl
      rw [hgd] at hcell
      have hmem : s[k] ∈ s.data.toList := by rw [str_at s k hlt]; exact List.getElem_mem _
      have hdk := HD.out s[k] hmem
      have htk : s.data.toList.take (k + 1) = s.data.toList.take k ++ [s[k]] := nth_take s.data.toList k (by simpa using hlt)
      have hmono : pv 16 (s.data.toList.take (k + 1)) ≤ V := by
        rw [← HV.out]
        have := pv_mono 16 (by omega) (s.data.toList.take (k + 1)) (s.data.toList.drop (k + 1))
        rwa [List.take_append_drop] at this
      rw [htk, pv_snoc, ← HN.out] at hmono
      have hnext : n * 16 + dgV (s[k].toNat : Nat) = pv 16 (s.data.toList.take (k + 1)) := by rw [htk, pv_snoc, ← HN.out]
      generalize s[k] = c at *
      have hc8 := c.toNat_lt
      have hrg := dgV_range (c.toNat : Nat)
      have hlw := fun W h => hlow.out c W h
      have hdv : dgV (c.toNat : Nat) = if 48 ≤ (c.toNat : Int) ∧ (c.toNat : Int) ≤ 57 then (c.toNat : Int) - 48 else if 97 ≤ (c.toNat : Int) ∧ (c.toNat : Int) ≤ 102 then (c.toNat : Int) - 97 + 10 else if 65 ≤ (c.toNat : Int) ∧ (c.toNat : Int) ≤ 70 then (c.toNat : Int) - 65 + 10 else 16 := rfl
      generalize dgV (c.toNat : Nat) = d at *
      have HLW := Lib.hid hlw
      have HNX := Lib.hid hnext
      have HMO := Lib.hid hmono
      have hcls : (48 ≤ c.toNat ∧ c.toNat ≤ 57 ∧ d = (c.toNat : Int) - 48) ∨ (¬ c.toNat ≤ 57 ∧ ((97 ≤ c.toNat ∧ c.toNat ≤ 102) ∨ (65 ≤ c.toNat ∧ c.toNat ≤ 70)) ∧ 10 ≤ d) := by
        by_cases q1 : 48 ≤ (c.toNat : Int) ∧ (c.toNat : Int) ≤ 57
        · rw [if_pos q1] at hdv; left; omega
        · rw [if_neg q1] at hdv
          by_cases q2 : 97 ≤ (c.toNat : Int) ∧ (c.toNat : Int) ≤ 102
          · rw [if_pos q2] at hdv; right; omega
          · rw [if_neg q2] at hdv
            by_cases q3 : 65 ≤ (c.toNat : Int) ∧ (c.toNat : Int) ≤ 70
            · rw [if_pos q3] at hdv; right; omega
            · rw [if_neg q3] at hdv; omega
      have h95 : ((c.toNat : Int) == 95) = false := by simp only [beq_eq_false_iff_ne, ne_eq]; omega
      obtain ⟨hd0, hd16⟩ := hrg
      clear hdv hmono hnext hlw htk hgd hmem
      have hq : ¬ d < 0 := by omega
      have hcls2 := Lib.hid hcls
      clear hcls
      go_upto_block 5 with fail
      go_cut [12, 16] (fun us v wx => us = .bool false ∧ v = .int .u8 d ∧ wb = wx)
      case first =>
        rcases hcls2.out with ⟨g1, g2, g3⟩ | ⟨g1, g2, g3⟩
        · have g1' : (48 : Int) ≤ (c.toNat : Int) := by omega
          have g2' : (c.toNat : Int) ≤ 57 := by omega
          have g4 : (c.toNat : Int) - 48 = d := by omega
          clear g3 g1 g2
          go_wp2_with fail
          go_meet
          exact ⟨rfl, rfl, rfl⟩
        · have g1' : ¬ (c.toNat : Int) ≤ 57 := by omega
          have g1'' : (48 : Int) ≤ (c.toNat : Int) := by omega
          have HL2 := Lib.hid (fun W => HLW.out W g2)
          have e7 : d + 87 - 97 + 10 = d := by omega
          clear g1 g2
          go_wp2_with (go_at_call 239; refine (HL2.out _).mono ?_; rintro e _ ⟨rfl, rfl⟩)
          go_meet
          exact ⟨rfl, rfl, rfl⟩
      case rest =>
        obtain ⟨rfl, rfl, rfl⟩ := hcut
        have hdb : ¬ 16 ≤ d := by omega
        by_cases hcut2 : 1152921504606846976 ≤ n
        · have hVV : 18446744073709551616 ≤ V := by have := HMO.out; omega
          have HVV := Lib.hid hVV
          clear hVV
          go_wp2_with fail
          go_ret2
          exact ⟨_, _, rfl, HBB.out, .inr ⟨rfl, HVV.out⟩⟩
        · have hm1 : n * 16 < 18446744073709551616 := by omega
          have hm0 : 0 ≤ n * 16 := by omega
          have hw0 : ¬ 18446744073709551615 < n * 16 + d := by omega
          have hw1 : ¬ n * 16 + d < n * 16 := by omega
          have hw2 : 0 ≤ n * 16 + d := by omega
          have hw3 : n * 16 + d < 18446744073709551616 := by omega
          have hw4 : IntKind.u64.wrap (n * 16 + d) = n * 16 + d := IntWalk.u64_in _ (by omega)
          go_wp2_with fail
          go_roundg (s.size - (k + 1))
          case measure => omega
          case rel => exact ⟨_, k + 1, rfl, rfl, rfl, by go_num, rfl, by omega, HNX.out, hw2, hw3⟩
    · have hlt' : ¬ (k : Int) < (s.size : Int) := by omega
      have hfin : n = V := by
        rw [HN.out, List.take_of_length_le (by simp; omega)]
        exact HV.out
      have HF := Lib.hid hfin
      clear hfin
      go_wp2_with fail
      go_ret2
      exact ⟨_, _, rfl, HBB.out, .inl ⟨rfl, HF.out, by rw [← HF.out]; exact hn1⟩⟩
set_option maxRecDepth 100000 in
set_option maxHeartbeats 1000000 in
theorem pu10_any (s : ByteArray) (w : World) (h0 : 0 < s.size) (hs : s.size ≤ 1000000) (hd : ∀ x ∈ s.data.toList, dgV x.toNat < 10) :
    Calls Tryz.prog 218 #[.string s, .int .i64 10, .int .i64 64] w (PuP w (pv 10 s.data.toList)) := by
  have hcv := fun W => Lib.run_convert_string_bytes (P := Tryz.prog) W 9 165 5 s Tryz.underlying9 Tryz.underlying165 Tryz.underlying5
  have hse : s.toList.isEmpty = false := (str_ne h0).1
  have hsn : ¬ s.toList = [] := (str_ne h0).2
  have HD := Lib.hid hd
  obtain ⟨V, hV⟩ : ∃ V, pv 10 s.data.toList = V := ⟨_, rfl⟩
  rw [hV]
  have HV := Lib.hid hV
  have hlow := Lib.hid low_any
  have hmx : IntKind.u64.wrap (IntKind.u64.wrap 18446744073709551616 - 1) = 18446744073709551615 := by decide
  have hbc := fun j (hj : j < s.size) => Lib.bytesWorld_cell w 5 s j hj
  have hbb := below_bytes w s
  have HBC := Lib.hid hbc
  have HBB := Lib.hid hbb
  clear hd hV hbc hbb
  go_enter Tryz.func218, Tryz.ntmps218
  go_wp2_with fail
  generalize Lib.bytesWorld w 5 s = wb at *
  clear hcv hmx hse hsn
  go_loopg [12, 13, 101] s.size (fun g us v j wr => ∃ (n : Int) (k : Nat), wb = wr ∧ us = .bool false ∧ v = .int .u64 n ∧ j = .int .i64 k ∧ g = s.size - k ∧ k ≤ s.size ∧ n = pv 10 (s.data.toList.take k) ∧ 0 ≤ n ∧ n < 18446744073709551616)
  case atStart => exact ⟨0, 0, rfl, rfl, rfl, rfl, by omega, by omega, rfl, by omega, by omega⟩
  case round =>
    obtain ⟨n, k, rfl, rfl, rfl, rfl, rfl, hk, hn, hn0, hn1⟩ := hrel
    have HN := Lib.hid hn
    clear hn
    have hk0 : (0 : Int) ≤ (k : Int) := by omega
    by_cases hlt : k < s.size
    · have hlt' : (k : Int) < (s.size : Int) := by omega
      have hcell := HBC.out k hlt
      have hgd : s.data.toList.getD k 0 = s[k] := by
        rw [List.getD_eq_getElem?_getD, List.getElem?_eq_getElem (by simpa using hlt)]; rfl
      rw [hgd] at hcell
      have hmem : s[k] ∈ s.data.toList := by rw [str_at s k hlt]; exact List.getElem_mem _
      have hdk := HD.out s[k] hmem
      have htk : s.data.toList.take (k + 1) = s.data.toList.take k ++ [s[k]] := nth_take s.data.toList k (by simpa using hlt)
      have hmono : pv 10 (s.data.toList.take (k + 1)) ≤ V := by
        rw [← HV.out]
        have := pv_mono 10 (by omega) (s.data.toList.take (k + 1)) (s.data.toList.drop (k + 1))
        rwa [List.take_append_drop] at this
      rw [htk, pv_snoc, ← HN.out] at hmono
      have hnext : n * 10 + dgV (s[k].toNat : Nat) = pv 10 (s.data.toList.take (k + 1)) := by rw [htk, pv_snoc, ← HN.out]
      generalize s[k] = c at *
      have hc8 := c.toNat_lt
      have hrg := dgV_range (c.toNat : Nat)
      have hlw := fun W h => hlow.out c W h
      have hdv : dgV (c.toNat : Nat) = if 48 ≤ (c.toNat : Int) ∧ (c.toNat : Int) ≤ 57 then (c.toNat : Int) - 48 else if 97 ≤ (c.toNat : Int) ∧ (c.toNat : Int) ≤ 102 then (c.toNat : Int) - 97 + 10 else if 65 ≤ (c.toNat : Int) ∧ (c.toNat : Int) ≤ 70 then (c.toNat : Int) - 65 + 10 else 16 := rfl
      generalize dgV (c.toNat : Nat) = d at *
      have HLW := Lib.hid hlw
      have HNX := Lib.hid hnext
      have HMO := Lib.hid hmono
      have hcls : (48 ≤ c.toNat ∧ c.toNat ≤ 57 ∧ d = (c.toNat : Int) - 48) ∨ (¬ c.toNat ≤ 57 ∧ ((97 ≤ c.toNat ∧ c.toNat ≤ 102) ∨ (65 ≤ c.toNat ∧ c.toNat ≤ 70)) ∧ 10 ≤ d) := by
        by_cases q1 : 48 ≤ (c.toNat : Int) ∧ (c.toNat : Int) ≤ 57
        · rw [if_pos q1] at hdv; left; omega
        · rw [if_neg q1] at hdv
          by_cases q2 : 97 ≤ (c.toNat : Int) ∧ (c.toNat : Int) ≤ 102
          · rw [if_pos q2] at hdv; right; omega
          · rw [if_neg q2] at hdv
            by_cases q3 : 65 ≤ (c.toNat : Int) ∧ (c.toNat : Int) ≤ 70
            · rw [if_pos q3] at hdv; right; omega
            · rw [if_neg q3] at hdv; omega
      have h95 : ((c.toNat : Int) == 95) = false := by simp only [beq_eq_false_iff_ne, ne_eq]; omega
      obtain ⟨hd0, hd16⟩ := hrg
      clear hdv hmono hnext hlw htk hgd hmem
      have hq : ¬ d < 0 := by omega
      have hcls2 := Lib.hid hcls
      clear hcls
      go_upto_block 5 with fail
      go_cut [12, 16] (fun us v wx => us = .bool false ∧ v = .int .u8 d ∧ wb = wx)
      case first =>
        rcases hcls2.out with ⟨g1, g2, g3⟩ | ⟨g1, g2, g3⟩
        · have g1' : (48 : Int) ≤ (c.toNat : Int) := by omega
          have g2' : (c.toNat : Int) ≤ 57 := by omega
          have g4 : (c.toNat : Int) - 48 = d := by omega
          clear g3 g1 g2
          go_wp2_with fail
          go_meet
          exact ⟨rfl, rfl, rfl⟩
        · exfalso; omega
      case rest =>
        obtain ⟨rfl, rfl, rfl⟩ := hcut
        have hdb : ¬ 10 ≤ d := by omega
        by_cases hcut2 : 1844674407370955162 ≤ n
        · have hVV : 18446744073709551616 ≤ V := by have := HMO.out; omega
          have HVV := Lib.hid hVV
          clear hVV
          go_wp2_with fail
          go_ret2
          exact ⟨_, _, rfl, HBB.out, .inr ⟨rfl, HVV.out⟩⟩
        · have hm1 : n * 10 < 18446744073709551616 := by omega
          have hm0 : 0 ≤ n * 10 := by omega
          by_cases hov : n * 10 + d < 18446744073709551616
          · have hw0 : ¬ 18446744073709551615 < n * 10 + d := by omega
            have hw1 : ¬ n * 10 + d < n * 10 := by omega
            have hw2 : 0 ≤ n * 10 + d := by omega
            have hw3 : n * 10 + d < 18446744073709551616 := by omega
            have hw4 : IntKind.u64.wrap (n * 10 + d) = n * 10 + d := IntWalk.u64_in _ (by omega)
            go_wp2_with fail
            go_roundg (s.size - (k + 1))
            case measure => omega
            case rel => exact ⟨_, k + 1, rfl, rfl, rfl, by go_num, rfl, by omega, HNX.out, hw2, hw3⟩
          · have hVV : 18446744073709551616 ≤ V := by have := HMO.out; omega
            have HVV := Lib.hid hVV
            have hw4 : IntKind.u64.wrap (n * 10 + d) = n * 10 + d - 18446744073709551616 := by
              show (n * 10 + d) % 18446744073709551616 = _
              omega
            have hw5 : n * 10 + d - 18446744073709551616 < n * 10 := by omega
            clear hVV
            go_wp2_with fail
            go_ret2
            exact ⟨_, _, rfl, HBB.out, .inr ⟨rfl, HVV.out⟩⟩
    · have hlt' : ¬ (k : Int) < (s.size : Int) := by omega
      have hfin : n = V := by
        rw [HN.out, List.take_of_length_le (by simp; omega)]
        exact HV.out
      have HF := Lib.hid hfin
      clear hfin
      go_wp2_with fail
      go_ret2
      exact ⟨_, _, rfl, HBB.out, .inl ⟨rfl, HF.out, by rw [← HF.out]; exact hn1⟩⟩
end
section
open Go.RowKit
set_option linter.unusedVariables false
set_option linter.unusedSimpArgs false

/-- The library's variables that are read. -/
structure Env (w : World) : Prop where
  m : ∃ m, w.cell? ⟨0, 0, none⟩ = some (.int .i64 m)
  e : ∃ ev, w.cell? ⟨2, 0, none⟩ = some ev ∧ (ev = .nilIface ∨ ∃ te pe, ev = .iface te pe)
theorem Env.lt {w : World} (h : Env w) : 2 < w.heap.size := by
  obtain ⟨ev, h1, _⟩ := h.e
  exact World.block_lt_of_cell? w _ h1
theorem Env.below {w W : World} (h : Env w) (hb : Below w.heap.size w W) : Env W := by
  have hl := h.lt
  obtain ⟨m, hm⟩ := h.m
  obtain ⟨ev, h1, h2⟩ := h.e
  exact ⟨⟨m, (hb.cell (p := ⟨0, 0, none⟩) (by show 0 < _; omega)).trans hm⟩, ⟨ev, (hb.cell (p := ⟨2, 0, none⟩) (by show 2 < _; omega)).trans h1, h2⟩⟩

/-- strconv.ParseUint's answer. -/
def PvP (w : World) (V : Int) (e : Ending) (w' : World) : Prop := ∃ (x : Int) (ev : Value), e = .returned (.tuple #[.int .u64 x, ev]) ∧ Below w.heap.size w w' ∧ ((ev = .nilIface ∧ x = V ∧ V < 18446744073709551616) ∨ ((∃ N, ev = .iface 269 (.pointer (some ⟨N, 0, none⟩))) ∧ 18446744073709551616 ≤ V))
set_option maxRecDepth 100000 in
set_option maxHeartbeats 1000000 in
theorem pub_any (s : ByteArray) (base : Int) (w : World) (hb : base = 8 ∨ base = 16 ∨ base = 10) (hE : Env w) (h0 : 0 < s.size) (hs : s.size ≤ 1000000) (hd : ∀ x ∈ s.data.toList, dgV x.toNat < base) :
    Calls Tryz.prog 196 #[.string s, .int .i64 base, .int .i64 64] w (PvP w (pv base s.data.toList)) := by
  have hin : Calls Tryz.prog 218 #[.string s, .int .i64 base, .int .i64 64] w (PuP w (pv base s.data.toList)) := by
    rcases hb with rfl | rfl | rfl
    · exact pu8_any s w h0 hs hd
    · exact pu16_any s w h0 hs hd
    · exact pu10_any s w h0 hs hd
  generalize pv base s.data.toList = V at *
  have HIN := Lib.hid hin
  have HE := Lib.hid hE
  clear hin hb hd hE
  go_enter Tryz.func196, Tryz.ntmps196
  go_wp2_with fail
  refine (HIN.out).mono ?_
  rintro e w1 ⟨x, ev, rfl, hb1, hcase⟩
  have HB1 := Lib.hid hb1
  have HE1 := Lib.hid (HE.out.below hb1)
  clear hb1
  rcases hcase with ⟨rfl, hx, hV⟩ | ⟨rfl, hV⟩
  · have HX := Lib.hid hx
    have HV := Lib.hid hV
    clear hx hV
    go_wp2_with fail
    go_ret2
    exact ⟨_, _, rfl, HB1.out, .inl ⟨rfl, HX.out, HV.out⟩⟩
  · have HV := Lib.hid hV
    clear hV
    obtain ⟨ev, h1, h2⟩ := HE1.out.e
    have hte := Lib.hid (fun fn => Tryz.strconv_toError_range fn s base 64 ev w1 (by omega) h1 h2)
    clear h1 h2
    go_wp2_with fail
    refine (hte.out _).mono ?_
    rintro e w2 ⟨N, rfl, _, _, hb2⟩
    have HB2 := Lib.hid (HB1.out.trans (hb2.mono HB1.out.size))
    clear hb2
    go_wp2_with fail
    go_ret2
    exact ⟨_, _, rfl, HB2.out, .inr ⟨⟨N, rfl⟩, HV.out⟩⟩

/-- What a number has behind its prefix, and its base. -/
def ntD (s : ByteArray) : ByteArray := if Lib.hasPrefix s.data.toList [48, 120] || Lib.hasPrefix s.data.toList [48, 88] then s.extract 2 s.size else if decide (1 < s.size) && (s.data.toList.headD 0 == 48) then s.extract 1 s.size else s
def ntB (s : ByteArray) : Int := if Lib.hasPrefix s.data.toList [48, 120] || Lib.hasPrefix s.data.toList [48, 88] then 16 else if decide (1 < s.size) && (s.data.toList.headD 0 == 48) then 8 else 10
def knB (b : Int) : ByteArray := if b = 16 then ⟨#[48, 49, 50, 51, 52, 53, 54, 55, 56, 57, 97, 98, 99, 100, 101, 102, 65, 66, 67, 68, 69, 70]⟩ else if b = 8 then ⟨#[48, 49, 50, 51, 52, 53, 54, 55]⟩ else ⟨#[48, 49, 50, 51, 52, 53, 54, 55, 56, 57]⟩
theorem pre_size {s : ByteArray} {a b : UInt8} (h : Lib.hasPrefix s.data.toList [a, b] = true) : 2 ≤ s.size := by
  have h2 : s.data.toList.length = s.size := by simp
  cases hl : s.data.toList with
  | nil => rw [hl] at h; simp [Lib.hasPrefix, List.isPrefixOf] at h
  | cons c r =>
    rw [hl] at h
    obtain ⟨r', _, hr⟩ := pre_head h
    rw [hl, hr] at h2
    simp only [List.length_cons] at h2
    omega
set_option maxRecDepth 100000 in
set_option maxHeartbeats 1000000 in
theorem ntn_any (s : ByteArray) (w : World) (h0 : 0 < s.size) (hs : s.size ≤ 1000000) : Calls Tryz.prog 194 #[.string s] w fun e w' => e = .returned (.tuple #[.string (ntD s), .string (knB (ntB s)), .int .i64 (ntB s)]) ∧ w = w' := by
  have hA : ntD s = if Lib.hasPrefix s.data.toList [48, 120] || Lib.hasPrefix s.data.toList [48, 88] then s.extract 2 s.size else if decide (1 < s.size) && (s.data.toList.headD 0 == 48) then s.extract 1 s.size else s := rfl
  have hB : ntB s = if Lib.hasPrefix s.data.toList [48, 120] || Lib.hasPrefix s.data.toList [48, 88] then 16 else if decide (1 < s.size) && (s.data.toList.headD 0 == 48) then 8 else 10 := rfl
  have hh : s.data.toList.headD 0 = s[0] := by
    have := drop_at s 0 h0
    rw [List.drop_zero] at this
    rw [this]; rfl
  rw [hh] at hA hB
  have p1 := fun W => hpre_any s ⟨#[48, 120]⟩ W
  have p2 := fun W => hpre_any s ⟨#[48, 88]⟩ W
  have e1 : (⟨#[48, 120]⟩ : ByteArray).data.toList = [48, 120] := rfl
  have e2 : (⟨#[48, 88]⟩ : ByteArray).data.toList = [48, 88] := rfl
  rw [e1] at p1
  rw [e2] at p2
  have z1 := fun h => pre_size (s := s) (a := 48) (b := 120) h
  have z2 := fun h => pre_size (s := s) (a := 48) (b := 88) h
  generalize Lib.hasPrefix s.data.toList [48, 120] = x1 at *
  generalize Lib.hasPrefix s.data.toList [48, 88] = x2 at *
  generalize hD : ntD s = D at *
  generalize hBB : ntB s = B at *
  clear hD hBB e1 e2 hh
  have P1 := Lib.hid p1
  have P2 := Lib.hid p2
  have HA := Lib.hid hA
  have HBB := Lib.hid hB
  clear p1 p2 hA hB
  cases x1
  · cases x2
    · by_cases q1 : 1 < s.size
      · have q1' : (1 : Int) < (s.size : Int) := by omega
        have q1'' : (1 : Int) ≤ (s.size : Int) := by omega
        by_cases q2 : s[0] = 48
        · have hA := HA.out
          have hB := HBB.out
          rw [if_neg (by simp), if_pos (by simp [q1, q2])] at hA hB
          have HA2 := Lib.hid hA
          have HB2 := Lib.hid hB
          have e3 : ((s[0].toNat : Int) == 48) = true := by rw [q2]; rfl
          clear hA hB HA HBB q2
          go_enter Tryz.func194, Tryz.ntmps194
          go_wp2_with fail
          refine (P1.out _).mono ?_
          rintro e _ ⟨rfl, rfl⟩
          go_wp2_with fail
          refine (P2.out _).mono ?_
          rintro e _ ⟨rfl, rfl⟩
          go_wp2_with fail
          go_ret3
          rw [HA2.out, HB2.out]
          exact ⟨rfl, rfl⟩
        · have hA := HA.out
          have hB := HBB.out
          rw [if_neg (by simp), if_neg (by simp [q2])] at hA hB
          have HA2 := Lib.hid hA
          have HB2 := Lib.hid hB
          have e3 : ((s[0].toNat : Int) == 48) = false := by
            simp only [beq_eq_false_iff_ne, ne_eq]
            intro e
            exact q2 (UInt8.toNat_inj.1 (by show s[0].toNat = 48; omega))
          clear hA hB HA HBB q2
          go_enter Tryz.func194, Tryz.ntmps194
          go_wp2_with fail
          refine (P1.out _).mono ?_
          rintro e _ ⟨rfl, rfl⟩
          go_wp2_with fail
          refine (P2.out _).mono ?_
          rintro e _ ⟨rfl, rfl⟩
          go_wp2_with fail
          go_ret3
          rw [HA2.out, HB2.out]
          exact ⟨rfl, rfl⟩
      · have q1' : ¬ (1 : Int) < (s.size : Int) := by omega
        have hA := HA.out
        have hB := HBB.out
        rw [if_neg (by simp), if_neg (by simp [q1])] at hA hB
        have HA2 := Lib.hid hA
        have HB2 := Lib.hid hB
        clear hA hB HA HBB q1
        go_enter Tryz.func194, Tryz.ntmps194
        go_wp2_with fail
        refine (P1.out _).mono ?_
        rintro e _ ⟨rfl, rfl⟩
        go_wp2_with fail
        refine (P2.out _).mono ?_
        rintro e _ ⟨rfl, rfl⟩
        go_wp2_with fail
        go_ret3
        rw [HA2.out, HB2.out]
        exact ⟨rfl, rfl⟩
    · have q := z2 rfl
      have q' : (2 : Int) ≤ (s.size : Int) := by omega
      have hA := HA.out
      have hB := HBB.out
      rw [if_pos (by simp)] at hA hB
      have HA2 := Lib.hid hA
      have HB2 := Lib.hid hB
      clear hA hB HA HBB z1 z2
      go_enter Tryz.func194, Tryz.ntmps194
      go_wp2_with fail
      refine (P1.out _).mono ?_
      rintro e _ ⟨rfl, rfl⟩
      go_wp2_with fail
      refine (P2.out _).mono ?_
      rintro e _ ⟨rfl, rfl⟩
      go_wp2_with fail
      go_ret3
      rw [HA2.out, HB2.out]
      exact ⟨rfl, rfl⟩
  · have q := z1 rfl
    have q' : (2 : Int) ≤ (s.size : Int) := by omega
    have hA := HA.out
    have hB := HBB.out
    rw [if_pos (by simp)] at hA hB
    have HA2 := Lib.hid hA
    have HB2 := Lib.hid hB
    clear hA hB HA HBB z1 z2
    go_enter Tryz.func194, Tryz.ntmps194
    go_wp2_with fail
    refine (P1.out _).mono ?_
    rintro e _ ⟨rfl, rfl⟩
    go_wp2_with fail
    go_ret3
    rw [HA2.out, HB2.out]
    exact ⟨rfl, rfl⟩

theorem contains_dg {b : Int} (hb : b = 8 ∨ b = 16 ∨ b = 10) (x : UInt8) : ((knB b).data.toList.contains x) = decide (dgV x.toNat < b) := by
  rcases hb with rfl | rfl | rfl
  · have : ((knB 8).data.toList.contains x == decide (dgV x.toNat < 8)) = true := fin8 (p := fun x => (knB 8).data.toList.contains x == decide (dgV x.toNat < 8)) (by decide +kernel) x
    simpa using this
  · have : ((knB 16).data.toList.contains x == decide (dgV x.toNat < 16)) = true := fin8 (p := fun x => (knB 16).data.toList.contains x == decide (dgV x.toNat < 16)) (by decide +kernel) x
    simpa using this
  · have : ((knB 10).data.toList.contains x == decide (dgV x.toNat < 10)) = true := fin8 (p := fun x => (knB 10).data.toList.contains x == decide (dgV x.toNat < 10)) (by decide +kernel) x
    simpa using this
theorem dropWhile_all {α : Type} (f : α → Bool) : ∀ (l : List α), l.dropWhile f = [] ↔ l.all f = true
  | [] => by simp
  | x :: r => by
    rw [List.dropWhile_cons, List.all_cons]
    cases h : f x
    · simp
    · simpa using dropWhile_all f r
theorem trim_all (l cs : List UInt8) : Lib.trimS l cs = [] ↔ l.all (fun x => cs.contains x) = true := by
  unfold Lib.trimS Lib.trimLeftS Lib.trimRightS
  rw [dropWhile_all, List.all_reverse]
  constructor
  · intro h
    by_cases hr : l.reverse.dropWhile (cs.contains ·) = []
    · rw [dropWhile_all, List.all_reverse] at hr
      exact hr
    · exfalso
      cases hd : l.reverse.dropWhile (cs.contains ·) with
      | nil => exact hr hd
      | cons x r =>
        have h2 := List.head_dropWhile_not (fun x => cs.contains x) (l := l.reverse) (by rw [hd]; simp)
        rw [hd] at h
        simp only [List.all_cons, Bool.and_eq_true] at h
        simp only [hd, List.head_cons] at h2
        rw [h.1] at h2
        cases h2
  · intro h
    have : l.reverse.dropWhile (cs.contains ·) = [] := by rw [dropWhile_all, List.all_reverse]; exact h
    rw [this]
    rfl
theorem ntB_is (s : ByteArray) : ntB s = 8 ∨ ntB s = 16 ∨ ntB s = 10 := by
  unfold ntB
  split
  · exact .inr (.inl rfl)
  · split
    · exact .inl rfl
    · exact .inr (.inr rfl)
theorem ntD_size (s : ByteArray) : (ntD s).size ≤ s.size := by
  unfold ntD
  split
  · simp [ByteArray.size_extract]
  · split
    · simp [ByteArray.size_extract]
    · exact Nat.le_refl _
/-- The value of a number's text, and its error. -/
def vlR (s : ByteArray) : Int × Nat :=
  if (ntD s).size = 0 ∨ (ntD s).data.toList.all (fun x => decide (dgV x.toNat < ntB s)) = false then (0, 30)
  else if 2147483648 < pv (ntB s) (ntD s).data.toList then (0, 9) else (pv (ntB s) (ntD s).data.toList, 0)
set_option maxRecDepth 100000 in
set_option maxHeartbeats 1000000 in
theorem valueOf_any (s : ByteArray) (w : World) (hE : Env w) (h0 : 0 < s.size) (hs : s.size ≤ 1000000) : Calls Tryz.prog 170 #[.string s] w fun e w' => e = .returned (.tuple #[.int .i64 (vlR s).1, .int .i64 ((vlR s).2 : Nat)]) ∧ Below w.heap.size w w' := by
  have hnt := fun W => ntn_any s W h0 hs
  have hb := ntB_is s
  have hds := ntD_size s
  have hR : vlR s = if (ntD s).size = 0 ∨ (ntD s).data.toList.all (fun x => decide (dgV x.toNat < ntB s)) = false then (0, 30)
    else if 2147483648 < pv (ntB s) (ntD s).data.toList then (0, 9) else (pv (ntB s) (ntD s).data.toList, 0) := rfl
  generalize vlR s = R at *
  generalize ntD s = D at *
  generalize ntB s = B at *
  have hta := trim_all D.data.toList (knB B).data.toList
  simp only [contains_dg hb] at hta
  have HNT := Lib.hid hnt
  have HR := Lib.hid hR
  have HE := Lib.hid hE
  by_cases hd0 : D.size = 0
  · have hemp := str_nil hd0
    rw [if_pos (.inl hd0)] at hR
    have HR2 := Lib.hid hR
    obtain ⟨em1, em2⟩ := hemp
    clear hnt hR hE HR hta hb
    go_enter Tryz.func170, Tryz.ntmps170
    go_wp2_with fail
    refine (HNT.out _).mono ?_
    rintro e _ ⟨rfl, rfl⟩
    go_wp2_with fail
    go_ret2
    rw [HR2.out]
    exact ⟨rfl, Below.refl _ _⟩
  · obtain ⟨em1, em2⟩ := str_ne (show 0 < D.size by omega)
    have htr := fun W => Tryz.strings_Trim_ascii D (knB B) W (by omega) (by rcases hb with rfl | rfl | rfl <;> decide) (by
      intro j x hx
      have hmem : x ∈ (knB B).data.toList := List.mem_of_getElem? hx
      have hc : (knB B).data.toList.contains x = true := by simpa using hmem
      have hk : (decide (((knB 8).data.toList.contains x || (knB 16).data.toList.contains x || (knB 10).data.toList.contains x) = true → x.toNat < 128)) = true := fin8 (p := fun x => decide (((knB 8).data.toList.contains x || (knB 16).data.toList.contains x || (knB 10).data.toList.contains x) = true → x.toNat < 128)) (by decide +kernel) x
      have hk2 := of_decide_eq_true hk
      apply hk2
      rcases hb with rfl | rfl | rfl <;> simp_all)
    obtain ⟨T, hT⟩ : ∃ T : ByteArray, (⟨(Lib.trimS D.data.toList (knB B).data.toList).toArray⟩ : ByteArray) = T := ⟨_, rfl⟩
    have hTl : T.data.toList = Lib.trimS D.data.toList (knB B).data.toList := by rw [← hT]
    simp only [hT] at htr
    have HTR := Lib.hid htr
    rw [← hTl] at hta
    have hTs : T.data.toList.length = T.size := by simp
    cases hall : D.data.toList.all (fun x => decide (dgV x.toNat < B))
    · rw [if_pos (.inr hall)] at hR
      have HR2 := Lib.hid hR
      have hT0 : 0 < T.size := by
        rcases Nat.eq_zero_or_pos T.size with h | h
        · have := hta.1 (List.eq_nil_of_length_eq_zero (by omega))
          rw [hall] at this
          cases this
        · exact h
      obtain ⟨em3, em4⟩ := str_ne hT0
      clear hnt hR hE HR hta hb htr hT hTl hTs hall
      go_enter Tryz.func170, Tryz.ntmps170
      go_wp2_with fail
      refine (HNT.out _).mono ?_
      rintro e _ ⟨rfl, rfl⟩
      go_wp2_with fail
      refine (HTR.out _).mono ?_
      rintro e w2 ⟨rfl, hb2⟩
      have HB2 := Lib.hid hb2
      clear hb2
      go_wp2_with fail
      go_ret2
      rw [HR2.out]
      exact ⟨rfl, HB2.out⟩
    · rw [if_neg (by rintro (h | h); exact hd0 h; rw [hall] at h; cases h)] at hR
      have hTn : T.size = 0 := by
        have := hta.2 hall
        rw [this] at hTs
        simpa using hTs.symm
      obtain ⟨em3, em4⟩ := str_nil hTn
      have hdg : ∀ x ∈ D.data.toList, dgV x.toNat < B := by
        intro x hx
        have := List.all_eq_true.1 hall x hx
        simpa using this
      have hpu := fun W (hW : Env W) => pub_any D B W hb hW (by omega) (by omega) hdg
      have hp0 : 0 ≤ pv B D.data.toList := pv_nonneg B (by omega) _
      generalize pv B D.data.toList = V at *
      have HPU := Lib.hid hpu
      have HR2 := Lib.hid hR
      clear hnt hR hE HR hta hb htr hT hTl hTs hall hpu hdg hTn
      go_enter Tryz.func170, Tryz.ntmps170
      go_wp2_with fail
      refine (HNT.out _).mono ?_
      rintro e _ ⟨rfl, rfl⟩
      go_wp2_with fail
      refine (HTR.out _).mono ?_
      rintro e w2 ⟨rfl, hb2⟩
      have HB2 := Lib.hid hb2
      clear hb2
      go_wp2_with fail
      refine (HPU.out _ (HE.out.below HB2.out)).mono ?_
      rintro e w3 ⟨x, ev, rfl, hb3, hcase⟩
      have HB3 := Lib.hid (HB2.out.trans (hb3.mono HB2.out.size))
      clear hb3
      rcases hcase with ⟨rfl, rfl, hV⟩ | ⟨⟨N, rfl⟩, hV⟩
      · by_cases hg : 2147483648 < x
        · have HR3 := HR2.out
          rw [if_pos hg] at HR3
          have HR3 := Lib.hid HR3
          go_wp2_with fail
          go_ret2
          rw [HR3.out]
          exact ⟨rfl, HB3.out⟩
        · have HR3 := HR2.out
          rw [if_neg hg] at HR3
          have HR3 := Lib.hid HR3
          have hx1 : x ≤ 2147483648 := by omega
          have hw : IntKind.i64.wrap x = x := IntWalk.i64_in _ (by omega)
          go_wp2_with fail
          go_ret2
          rw [HR3.out]
          exact ⟨rfl, HB3.out⟩
      · have HR3 := HR2.out
        rw [if_pos (by omega)] at HR3
        have HR3 := Lib.hid HR3
        go_wp2_with fail
        go_ret2
        rw [HR3.out]
        exact ⟨rfl, HB3.out⟩
end
end Go.Proofs.YthmdaejlopjjoaaGreatDoor
