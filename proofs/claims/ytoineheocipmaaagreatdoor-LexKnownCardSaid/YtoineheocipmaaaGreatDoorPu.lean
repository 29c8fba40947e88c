/-
  strconv.ParseUint of digits, in bases 8, 10 and 16 (64 bits).
-/
import Derived.Test.YtoineheocipmaaaGreatDoorLexC
import Derived.Test.YtoineheocipmaaaGreatDoorDigits
import Derived.Lib.ConvBytes
import Derived.Deep.DeepCutAuto
import Derived.Deep.CutBlock
import Derived.Deep.LoopGhost
import Derived.Outline
namespace Go.Proofs.YtoineheocipmaaaGreatDoor
open Go.RowKit
set_option linter.unusedVariables false
set_option linter.unusedSimpArgs false

/-- The number that digits tell. -/
def pv (base : Int) (l : List UInt8) : Int := l.foldl (fun n c => n * base + dgV c.toNat) 0
theorem pv_snoc (base : Int) (l : List UInt8) (c : UInt8) : pv base (l ++ [c]) = pv base l * base + dgV c.toNat := by simp [pv]
theorem pv_fold (base : Int) (hb : 1 ≤ base) : ∀ (l : List UInt8) (n : Int), 0 ≤ n → n ≤ l.foldl (fun n c => n * base + dgV c.toNat) n
  | [], n, _ => by simp
  | c :: r, n, h => by
    have h1 := (dgV_range c.toNat).1
    have h2 : n ≤ n * base := by
      have := Int.mul_le_mul_of_nonneg_left hb h
      simpa using this
    have := pv_fold base hb r (n * base + dgV c.toNat) (by omega)
    rw [List.foldl_cons]
    omega
theorem pv_nonneg (base : Int) (hb : 1 ≤ base) (l : List UInt8) : 0 ≤ pv base l := pv_fold base hb l 0 (by omega)
theorem pv_mono (base : Int) (hb : 1 ≤ base) (l r : List UInt8) : pv base l ≤ pv base (l ++ r) := by
  unfold pv
  rw [List.foldl_append]
  exact pv_fold base hb r _ (pv_nonneg base hb l)
def lowOk (n : Fin 256) : Bool := if (97 ≤ n.val ∧ n.val ≤ 102) ∨ (65 ≤ n.val ∧ n.val ≤ 70) then decide (bits .or .u8 (n.val : Int) 32 = dgV (n.val : Int) + 87) else true
theorem low_ok (n : Fin 256) : lowOk n = true := by
  have : ∀ n : Fin 256, lowOk n = true := by decide +kernel
  exact this n
theorem low_any (c : UInt8) (w : World) (h : (97 ≤ c.toNat ∧ c.toNat ≤ 102) ∨ (65 ≤ c.toNat ∧ c.toNat ≤ 70)) : Calls Tryz.prog 247 #[.int .u8 (c.toNat : Nat)] w fun e w' => e = .returned (.int .u8 (dgV (c.toNat : Nat) + 87)) ∧ w = w' := by
  have hk := low_ok ⟨c.toNat, c.toNat_lt⟩
  unfold lowOk at hk
  rw [if_pos h] at hk
  refine (Tryz.internal_strconv_lower (c.toNat : Nat) w).mono fun e w' ⟨h1, h2⟩ => ⟨?_, h2.symm⟩
  rw [h1]
  congr 2
  simpa using hk
/-- What ParseUint answers of digits. -/
def PuP (w : World) (V : Int) (e : Ending) (w' : World) : Prop := ∃ (x : Int) (ev : Value), e = .returned (.tuple #[.int .u64 x, ev]) ∧ Below w.heap.size w w' ∧ ((ev = .nilIface ∧ x = V ∧ V < 18446744073709551616) ∨ (ev = .iface 281 (.int .i64 1) ∧ 18446744073709551616 ≤ V))
theorem below_bytes (w : World) (s : ByteArray) : Below w.heap.size w (Lib.bytesWorld w 5 s) :=
  ⟨rfl, rfl, rfl, by rw [Lib.bytesWorld_size]; omega, fun i hi => Lib.bytesWorld_at_old w 5 s i hi⟩

set_option maxRecDepth 100000 in
set_option maxHeartbeats 1000000 in
theorem pu8_any (s : ByteArray) (w : World) (h0 : 0 < s.size) (hs : s.size ≤ 1000000) (hd : ∀ x ∈ s.data.toList, dgV x.toNat < 8) :
    Calls Tryz.prog 225 #[.string s, .int .i64 8, .int .i64 64] w (PuP w (pv 8 s.data.toList)) := by
  have hcv := fun W => Lib.run_convert_string_bytes (P := Tryz.prog) W 9 42 5 s Tryz.underlying9 Tryz.underlying42 Tryz.underlying5
  have hse : s.toList.isEmpty = false := (str_ne h0).1
  have hsn : ¬ s.toList = [] := (str_ne h0).2
  have HD := Lib.hid hd
  obtain ⟨V, hV⟩ : ∃ V, pv 8 s.data.toList = V := ⟨_, rfl⟩
  rw [hV]
  have HV := Lib.hid hV
  have hlow := Lib.hid low_any
  have hmx : IntKind.u64.wrap (IntKind.u64.wrap 18446744073709551616 - 1) = 18446744073709551615 := by decide
  have hbc := fun j (hj : j < s.size) => Lib.bytesWorld_cell w 5 s j hj
  have hbb := below_bytes w s
  have HBC := Lib.hid hbc
  have HBB := Lib.hid hbb
  clear hd hV hbc hbb
  go_enter Tryz.func225, Tryz.ntmps225
  go_wp2_with fail
  generalize Lib.bytesWorld w 5 s = wb at *
  clear hcv hmx hse hsn
  go_loopg [12, 13, 101] s.size (fun g us v j wr => ∃ (n : Int) (k : Nat), wb = wr ∧ us = .bool false ∧ v = .int .u64 n ∧ j = .int .i64 k ∧ g = s.size - k ∧ k ≤ s.size ∧ n = pv 8 (s.data.toList.take k) ∧ 0 ≤ n ∧ n < 18446744073709551616)
  case atStart => exact ⟨0, 0, rfl, rfl, rfl, rfl, by omega, by omega, rfl, by omega, by omega⟩
  case round =>
    obtain ⟨n, k, rfl, rfl, rfl, rfl, rfl, hk, hn, hn0, hn1⟩ := hrel
    have HN := Lib.hid hn
    clear hn
    have hk0 : (0 : Int) ≤ (k : Int) := by omega
    by_cases hlt : k < s.size
    · have hlt' : (k : Int) < (s.size : Int) := by omega
      have hcell := HBC.out k hlt
      have hgd : s.data.toList.getD k 0 = s[k] := by
        rw [List.getD_eq_getElem?_getD, List.getElem?_eq_getElem (by simpa using hlt)]; rfl
      rw [hgd] at hcell
      have hmem : s[k] ∈ s.data.toList := by rw [str_at s k hlt]; exact List.getElem_mem _
      have hdk := HD.out s[k] hmem
      have htk : s.data.toList.take (k + 1) = s.data.toList.take k ++ [s[k]] := nth_take s.data.toList k (by simpa using hlt)
      have hmono : pv 8 (s.data.toList.take (k + 1)) ≤ V := by
        rw [← HV.out]
        have := pv_mono 8 (by omega) (s.data.toList.take (k + 1)) (s.data.toList.drop (k + 1))
        rwa [List.take_append_drop] at this
      rw [htk, pv_snoc, ← HN.out] at hmono
      have hnext : n * 8 + dgV (s[k].toNat : Nat) = pv 8 (s.data.toList.take (k + 1)) := by rw [htk, pv_snoc, ← HN.out]
      generalize s[k] = c at *
      have hc8 := c.toNat_lt
      have hrg := dgV_range (c.toNat : Nat)
      have hlw := fun W h => hlow.out c W h
      have hdv : dgV (c.toNat : Nat) = if 48 ≤ (c.toNat : Int) ∧ (c.toNat : Int) ≤ 57 then (c.toNat : Int) - 48 else if 97 ≤ (c.toNat : Int) ∧ (c.toNat : Int) ≤ 102 then (c.toNat : Int) - 97 + 10 else if 65 ≤ (c.toNat : Int) ∧ (c.toNat : Int) ≤ 70 then (c.toNat : Int) - 65 + 10 else 16 := rfl
      generalize dgV (c.toNat : Nat) = d at *
      have HLW := Lib.hid hlw
      have HNX := Lib.hid hnext
      have HMO := Lib.hid hmono
      have hcls : (48 ≤ c.toNat ∧ c.toNat ≤ 57 ∧ d = (c.toNat : Int) - 48) ∨ (¬ c.toNat ≤ 57 ∧ ((97 ≤ c.toNat ∧ c.toNat ≤ 102) ∨ (65 ≤ c.toNat ∧ c.toNat ≤ 70)) ∧ 10 ≤ d) := by
        by_cases q1 : 48 ≤ (c.toNat : Int) ∧ (c.toNat : Int) ≤ 57
        · rw [if_pos q1] at hdv; left; omega
        · rw [if_neg q1] at hdv
          by_cases q2 : 97 ≤ (c.toNat : Int) ∧ (c.toNat : Int) ≤ 102
          · rw [if_pos q2] at hdv; right; omega
          · rw [if_neg q2] at hdv
            by_cases q3 : 65 ≤ (c.toNat : Int) ∧ (c.toNat : Int) ≤ 70
            · rw [if_pos q3] at hdv; right; omega
            · rw [if_neg q3] at hdv; omega
      have h95 : ((c.toNat : Int) == 95) = false := by simp only [beq_eq_false_iff_ne, ne_eq]; omega
      obtain ⟨hd0, hd16⟩ := hrg
      clear hdv hmono hnext hlw htk hgd hmem
      have hq : ¬ d < 0 := by omega
      have hcls2 := Lib.hid hcls
      clear hcls
      go_upto_block 5 with fail
      go_cut [12, 16] (fun us v wx => us = .bool false ∧ v = .int .u8 d ∧ wb = wx)
      case first =>
        rcases hcls2.out with ⟨g1, g2, g3⟩ | ⟨g1, g2, g3⟩
        · have g1' : (48 : Int) ≤ (c.toNat : Int) := by omega
          have g2' : (c.toNat : Int) ≤ 57 := by omega
          have g4 : (c.toNat : Int) - 48 = d := by omega
          clear g3 g1 g2
          go_wp2_with fail
          go_meet
          exact ⟨rfl, rfl, rfl⟩
        · exfalso; omega
      case rest =>
        obtain ⟨rfl, rfl, rfl⟩ := hcut
        have hdb : ¬ 8 ≤ d := by omega
        by_cases hcut2 : 2305843009213693952 ≤ n
        · have hVV : 18446744073709551616 ≤ V := by have := HMO.out; omega
          have HVV := Lib.hid hVV
          clear hVV
          go_wp2_with fail
          go_ret2
          exact ⟨_, _, rfl, HBB.out, .inr ⟨rfl, HVV.out⟩⟩
        · have hm1 : n * 8 < 18446744073709551616 := by omega
          have hm0 : 0 ≤ n * 8 := by omega
          have hw0 : ¬ 18446744073709551615 < n * 8 + d := by omega
          have hw1 : ¬ n * 8 + d < n * 8 := by omega
          have hw2 : 0 ≤ n * 8 + d := by omega
          have hw3 : n * 8 + d < 18446744073709551616 := by omega
          have hw4 : IntKind.u64.wrap (n * 8 + d) = n * 8 + d := IntWalk.u64_in _ (by omega)
          go_wp2_with fail
          go_roundg (s.size - (k + 1))
          case measure => omega
          case rel => exact ⟨_, k + 1, rfl, rfl, rfl, by go_num, rfl, by omega, HNX.out, hw2, hw3⟩
    · have hlt' : ¬ (k : Int) < (s.size : Int) := by omega
      have hfin : n = V := by
        rw [HN.out, List.take_of_length_le (by simp; omega)]
        exact HV.out
      have HF := Lib.hid hfin
      clear hfin
      go_wp2_with fail
      go_ret2
      exact ⟨_, _, rfl, HBB.out, .inl ⟨rfl, HF.out, by rw [← HF.out]; exact hn1⟩⟩
set_option maxRecDepth 100000 in
set_option maxHeartbeats 1000000 in
theorem pu16_any (s : ByteArray) (w : World) (h0 : 0 < s.size) (hs : s.size ≤ 1000000) (hd : ∀ x ∈ s.data.toList, dgV x.toNat < 16) :
    Calls Tryz.prog 225 #[.string s, .int .i64 16, .int .i64 64] w (PuP w (pv 16 s.data.toList)) := by
  have hcv := fun W => Lib.run_convert_string_bytes (P := Tryz.prog) W 9 42 5 s Tryz.underlying9 Tryz.underlying42 Tryz.underlying5
  have hse : s.toList.isEmpty = false := (str_ne h0).1
  have hsn : ¬ s.toList = [] := (str_ne h0).2
  have HD := Lib.hid hd
  obtain ⟨V, hV⟩ : ∃ V, pv 16 s.data.toList = V := ⟨_, rfl⟩
  rw [hV]
  have HV := Lib.hid hV
  have hlow := Lib.hid low_any
  have hmx : IntKind.u64.wrap (IntKind.u64.wrap 18446744073709551616 - 1) = 18446744073709551615 := by decide
  have hbc := fun j (hj : j < s.size) => Lib.bytesWorld_cell w 5 s j hj
  have hbb := below_bytes w s
  have HBC := Lib.hid hbc
  have HBB := Lib.hid hbb
  clear hd hV hbc hbb
  go_enter Tryz.func225, Tryz.ntmps225
  go_wp2_with fail
  generalize Lib.bytesWorld w 5 s = wb at *
  clear hcv hmx hse hsn
  go_loopg [12, 13, 101] s.size (fun g us v j wr => ∃ (n : Int) (k : Nat), wb = wr ∧ us = .bool false ∧ v = .int .u64 n ∧ j = .int .i64 k ∧ g = s.size - k ∧ k ≤ s.size ∧ n = pv 16 (s.data.toList.take k) ∧ 0 ≤ n ∧ n < 18446744073709551616)
  case atStart => exact ⟨0, 0, rfl, rfl, rfl, rfl, by omega, by omega, rfl, by omega, by omega⟩
  case round =>
    obtain ⟨n, k, rfl, rfl, rfl, rfl, rfl, hk, hn, hn0, hn1⟩ := hrel
    have HN := Lib.hid hn
    clear hn
    have hk0 : (0 : Int) ≤ (k : Int) := by omega
    by_cases hlt : k < s.size
    · have hlt' : (k : Int) < (s.size : Int) := by omega
      have hcell := HBC.out k hlt
      have hgd : s.data.toList.getD k 0 = s[k] := by
        rw [List.getD_eq_getElem?_getD, List.getElem?_eq_getElem (by simpa using hlt)]; rfl
      rw [hgd] at hcell
      have hmem : s[k] ∈ s.data.toList := by rw [str_at s k hlt]; exact List.getElem_mem _
      have hdk := HD.out s[k] hmem
      have htk : s.data.toList.take (k + 1) = s.data.toList.take k ++ [s[k]] := nth_take s.data.toList k (by simpa using hlt)
      have hmono : pv 16 (s.data.toList.take (k + 1)) ≤ V := by
        rw [← HV.out]
        have := pv_mono 16 (by omega) (s.data.toList.take (k + 1)) (s.data.toList.drop (k + 1))
        rwa [List.take_append_drop] at this
      rw [htk, pv_snoc, ← HN.out] at hmono
      have hnext : n * 16 + dgV (s[k].toNat : Nat) = pv 16 (s.data.toList.take (k + 1)) := by rw [htk, pv_snoc, ← HN.out]
      generalize s[k] = c at *
      have hc8 := c.toNat_lt
      have hrg := dgV_range (c.toNat : Nat)
      have hlw := fun W h => hlow.out c W h
      have hdv : dgV (c.toNat : Nat) = if 48 ≤ (c.toNat : Int) ∧ (c.toNat : Int) ≤ 57 then (c.toNat : Int) - 48 else if 97 ≤ (c.toNat : Int) ∧ (c.toNat : Int) ≤ 102 then (c.toNat : Int) - 97 + 10 else if 65 ≤ (c.toNat : Int) ∧ (c.toNat : Int) ≤ 70 then (c.toNat : Int) - 65 + 10 else 16 := rfl
      generalize dgV (c.toNat : Nat) = d at *
      have HLW := Lib.hid hlw
      have HNX := Lib.hid hnext
      have HMO := Lib.hid hmono
      have hcls : (48 ≤ c.toNat ∧ c.toNat ≤ 57 ∧ d = (c.toNat : Int) - 48) ∨ (¬ c.toNat ≤ 57 ∧ ((97 ≤ c.toNat ∧ c.toNat ≤ 102) ∨ (65 ≤ c.toNat ∧ c.toNat ≤ 70)) ∧ 10 ≤ d) := by
        by_cases q1 : 48 ≤ (c.toNat : Int) ∧ (c.toNat : Int) ≤ 57
        · rw [if_pos q1] at hdv; left; omega
        · rw [if_neg q1] at hdv
          by_cases q2 : 97 ≤ (c.toNat : Int) ∧ (c.toNat : Int) ≤ 102
          · rw [if_pos q2] at hdv; right; omega
          · rw [if_neg q2] at hdv
            by_cases q3 : 65 ≤ (c.toNat : Int) ∧ (c.toNat : Int) ≤ 70
            · rw [if_pos q3] at hdv; right; omega
            · rw [if_neg q3] at hdv; omega
      have h95 : ((c.toNat : Int) == 95) = false := by simp only [beq_eq_false_iff_ne, ne_eq]; omega
      obtain ⟨hd0, hd16⟩ := hrg
      clear hdv hmono hnext hlw htk hgd hmem
      have hq : ¬ d < 0 := by omega
      have hcls2 := Lib.hid hcls
      clear hcls
      go_upto_block 5 with fail
      go_cut [12, 16] (fun us v wx => us = .bool false ∧ v = .int .u8 d ∧ wb = wx)
      case first =>
        rcases hcls2.out with ⟨g1, g2, g3⟩ | ⟨g1, g2, g3⟩
        · have g1' : (48 : Int) ≤ (c.toNat : Int) := by omega
          have g2' : (c.toNat : Int) ≤ 57 := by omega
          have g4 : (c.toNat : Int) - 48 = d := by omega
          clear g3 g1 g2
          go_wp2_with fail
          go_meet
          exact ⟨rfl, rfl, rfl⟩
        · have g1' : ¬ (c.toNat : Int) ≤ 57 := by omega
          have g1'' : (48 : Int) ≤ (c.toNat : Int) := by omega
          have HL2 := Lib.hid (fun W => HLW.out W g2)
          have e7 : d + 87 - 97 + 10 = d := by omega
          clear g1 g2
          go_wp2_with (go_at_call 247; refine (HL2.out _).mono ?_; rintro e _ ⟨rfl, rfl⟩)
          go_meet
          exact ⟨rfl, rfl, rfl⟩
      case rest =>
        obtain ⟨rfl, rfl, rfl⟩ := hcut
        have hdb : ¬ 16 ≤ d := by omega
        by_cases hcut2 : 1152921504606846976 ≤ n
        · have hVV : 18446744073709551616 ≤ V := by have := HMO.out; omega
          have HVV := Lib.hid hVV
          clear hVV
          go_wp2_with fail
          go_ret2
          exact ⟨_, _, rfl, HBB.out, .inr ⟨rfl, HVV.out⟩⟩
        · have hm1 : n * 16 < 18446744073709551616 := by omega
          have hm0 : 0 ≤ n * 16 := by omega
          have hw0 : ¬ 18446744073709551615 < n * 16 + d := by omega
          have hw1 : ¬ n * 16 + d < n * 16 := by omega
          have hw2 : 0 ≤ n * 16 + d := by omega
          have hw3 : n * 16 + d < 18446744073709551616 := by omega
          have hw4 : IntKind.u64.wrap (n * 16 + d) = n * 16 + d := IntWalk.u64_in _ (by omega)
          go_wp2_with fail
          go_roundg (s.size - (k + 1))
          case measure => omega
          case rel => exact ⟨_, k + 1, rfl, rfl, rfl, by go_num, rfl, by omega, HNX.out, hw2, hw3⟩
    · have hlt' : ¬ (k : Int) < (s.size : Int) := by omega
      have hfin : n = V := by
        rw [HN.out, List.take_of_length_le (by simp; omega)]
        exact HV.out
      have HF := Lib.hid hfin
      clear hfin
      go_wp2_with fail
      go_ret2
      exact ⟨_, _, rfl, HBB.out, .inl ⟨rfl, HF.out, by rw [← HF.out]; exact hn1⟩⟩
set_option maxRecDepth 100000 in
set_option maxHeartbeats 1000000 in
theorem pu10_any (s : ByteArray) (w : World) (h0 : 0 < s.size) (hs : s.size ≤ 1000000) (hd : ∀ x ∈ s.data.toList, dgV x.toNat < 10) :
    Calls Tryz.prog 225 #[.string s, .int .i64 10, .int .i64 64] w (PuP w (pv 10 s.data.toList)) := by
  have hcv := fun W => Lib.run_convert_string_bytes (P := Tryz.prog) W 9 42 5 s Tryz.underlying9 Tryz.underlying42 Tryz.underlying5
  have hse : s.toList.isEmpty = false := (str_ne h0).1
  have hsn : ¬ s.toList = [] := (str_ne h0).2
  have HD := Lib.hid hd
  obtain ⟨V, hV⟩ : ∃ V, pv 10 s.data.toList = V := ⟨_, rfl⟩
  rw [hV]
  have HV := Lib.hid hV
  have hlow := Lib.hid low_any
  have hmx : IntKind.u64.wrap (IntKind.u64.wrap 18446744073709551616 - 1) = 18446744073709551615 := by decide
  have hbc := fun j (hj : j < s.size) => Lib.bytesWorld_cell w 5 s j hj
  have hbb := below_bytes w s
  have HBC := Lib.hid hbc
  have HBB := Lib.hid hbb
  clear hd hV hbc hbb
  go_enter Tryz.func225, Tryz.ntmps225
  go_wp2_with fail
  generalize Lib.bytesWorld w 5 s = wb at *
  clear hcv hmx hse hsn
  go_loopg [12, 13, 101] s.size (fun g us v j wr => ∃ (n : Int) (k : Nat), wb = wr ∧ us = .bool false ∧ v = .int .u64 n ∧ j = .int .i64 k ∧ g = s.size - k ∧ k ≤ s.size ∧ n = pv 10 (s.data.toList.take k) ∧ 0 ≤ n ∧ n < 18446744073709551616)
  case atStart => exact ⟨0, 0, rfl, rfl, rfl, rfl, by omega, by omega, rfl, by omega, by omega⟩
  case round =>
    obtain ⟨n, k, rfl, rfl, rfl, rfl, rfl, hk, hn, hn0, hn1⟩ := hrel
    have HN := Lib.hid hn
    clear hn
    have hk0 : (0 : Int) ≤ (k : Int) := by omega
    by_cases hlt : k < s.size
    · have hlt' : (k : Int) < (s.size : Int) := by omega
      have hcell := HBC.out k hlt
      have hgd : s.data.toList.getD k 0 = s[k] := by
        rw [List.getD_eq_getElem?_getD, List.getElem?_eq_getElem (by simpa using hlt)]; rfl
      rw [hgd] at hcell
      have hmem : s[k] ∈ s.data.toList := by rw [str_at s k hlt]; exact List.getElem_mem _
      have hdk := HD.out s[k] hmem
      have htk : s.data.toList.take (k + 1) = s.data.toList.take k ++ [s[k]] := nth_take s.data.toList k (by simpa using hlt)
      have hmono : pv 10 (s.data.toList.take (k + 1)) ≤ V := by
        rw [← HV.out]
        have := pv_mono 10 (by omega) (s.data.toList.take (k + 1)) (s.data.toList.drop (k + 1))
        rwa [List.take_append_drop] at this
      rw [htk, pv_snoc, ← HN.out] at hmono
      have hnext : n * 10 + dgV (s[k].toNat : Nat) = pv 10 (s.data.toList.take (k + 1)) := by rw [htk, pv_snoc, ← HN.out]
      generalize s[k] = c at *
      have hc8 := c.toNat_lt
      have hrg := dgV_range (c.toNat : Nat)
      have hlw := fun W h => hlow.out c W h
      have hdv : dgV (c.toNat : Nat) = if 48 ≤ (c.toNat : Int) ∧ (c.toNat : Int) ≤ 57 then (c.toNat : Int) - 48 else if 97 ≤ (c.toNat : Int) ∧ (c.toNat : Int) ≤ 102 then (c.toNat : Int) - 97 + 10 else if 65 ≤ (c.toNat : Int) ∧ (c.toNat : Int) ≤ 70 then (c.toNat : Int) - 65 + 10 else 16 := rfl
      generalize dgV (c.toNat : Nat) = d at *
      have HLW := Lib.hid hlw
      have HNX := Lib.hid hnext
      have HMO := Lib.hid hmono
      have hcls : (48 ≤ c.toNat ∧ c.toNat ≤ 57 ∧ d = (c.toNat : Int) - 48) ∨ (¬ c.toNat ≤ 57 ∧ ((97 ≤ c.toNat ∧ c.toNat ≤ 102) ∨ (65 ≤ c.toNat ∧ c.toNat ≤ 70)) ∧ 10 ≤ d) := by
        by_cases q1 : 48 ≤ (c.toNat : Int) ∧ (c.toNat : Int) ≤ 57
        · rw [if_pos q1] at hdv; left; omega
        · rw [if_neg q1] at hdv
          by_cases q2 : 97 ≤ (c.toNat : Int) ∧ (c.toNat : Int) ≤ 102
          · rw [if_pos q2] at hdv; right; omega
          · rw [if_neg q2] at hdv
            by_cases q3 : 65 ≤ (c.toNat : Int) ∧ (c.toNat : Int) ≤ 70
            · rw [if_pos q3] at hdv; right; omega
            · rw [if_neg q3] at hdv; omega
      have h95 : ((c.toNat : Int) == 95) = false := by simp only [beq_eq_false_iff_ne, ne_eq]; omega
      obtain ⟨hd0, hd16⟩ := hrg
      clear hdv hmono hnext hlw htk hgd hmem
      have hq : ¬ d < 0 := by omega
      have hcls2 := Lib.hid hcls
      clear hcls
      go_upto_block 5 with fail
      go_cut [12, 16] (fun us v wx => us = .bool false ∧ v = .int .u8 d ∧ wb = wx)
      case first =>
        rcases hcls2.out with ⟨g1, g2, g3⟩ | ⟨g1, g2, g3⟩
        · have g1' : (48 : Int) ≤ (c.toNat : Int) := by omega
          have g2' : (c.toNat : Int) ≤ 57 := by omega
          have g4 : (c.toNat : Int) - 48 = d := by omega
          clear g3 g1 g2
          go_wp2_with fail
          go_meet
          exact ⟨rfl, rfl, rfl⟩
        · exfalso; omega
      case rest =>
        obtain ⟨rfl, rfl, rfl⟩ := hcut
        have hdb : ¬ 10 ≤ d := by omega
        by_cases hcut2 : 1844674407370955162 ≤ n
        · have hVV : 18446744073709551616 ≤ V := by have := HMO.out; omega
          have HVV := Lib.hid hVV
          clear hVV
          go_wp2_with fail
          go_ret2
          exact ⟨_, _, rfl, HBB.out, .inr ⟨rfl, HVV.out⟩⟩
        · have hm1 : n * 10 < 18446744073709551616 := by omega
          have hm0 : 0 ≤ n * 10 := by omega
          by_cases hov : n * 10 + d < 18446744073709551616
          · have hw0 : ¬ 18446744073709551615 < n * 10 + d := by omega
            have hw1 : ¬ n * 10 + d < n * 10 := by omega
            have hw2 : 0 ≤ n * 10 + d := by omega
            have hw3 : n * 10 + d < 18446744073709551616 := by omega
            have hw4 : IntKind.u64.wrap (n * 10 + d) = n * 10 + d := IntWalk.u64_in _ (by omega)
            go_wp2_with fail
            go_roundg (s.size - (k + 1))
            case measure => omega
            case rel => exact ⟨_, k + 1, rfl, rfl, rfl, by go_num, rfl, by omega, HNX.out, hw2, hw3⟩
          · have hVV : 18446744073709551616 ≤ V := by have := HMO.out; omega
            have HVV := Lib.hid hVV
            have hw4 : IntKind.u64.wrap (n * 10 + d) = n * 10 + d - 18446744073709551616 := by
              show (n * 10 + d) % 18446744073709551616 = _
              omega
            have hw5 : n * 10 + d - 18446744073709551616 < n * 10 := by omega
            clear hVV
            go_wp2_with fail
            go_ret2
            exact ⟨_, _, rfl, HBB.out, .inr ⟨rfl, HVV.out⟩⟩
    · have hlt' : ¬ (k : Int) < (s.size : Int) := by omega
      have hfin : n = V := by
        rw [HN.out, List.take_of_length_le (by simp; omega)]
        exact HV.out
      have HF := Lib.hid hfin
      clear hfin
      go_wp2_with fail
      go_ret2
      exact ⟨_, _, rfl, HBB.out, .inl ⟨rfl, HF.out, by rw [← HF.out]; exact hn1⟩⟩
end Go.Proofs.YtoineheocipmaaaGreatDoor
