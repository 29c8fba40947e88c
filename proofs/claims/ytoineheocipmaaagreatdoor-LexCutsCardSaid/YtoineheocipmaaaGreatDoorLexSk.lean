/-
  lex: the document's answer: what stands between tokens.
-/
import Derived.Test.YtoineheocipmaaaGreatDoorLexRB
namespace Go.Proofs.YtoineheocipmaaaGreatDoor
open Go.RowKit
set_option linter.unusedVariables false
set_option linter.unusedSimpArgs false

/-- The next two bytes are these. -/
theorem two_at (s : ByteArray) (p m : Nat) (hm : m = p + 2 ∨ (m = s.size ∧ s.size ≤ p + 2)) (a b : UInt8) : ((s.extract p m).toList == [a, b]) = Lib.hasPrefix (s.data.toList.drop p) [a, b] := by
  have e : (s.extract p m).toList = (s.data.toList.drop p).take 2 := by
    rw [Lib.toList_data, extract_mid]
    rcases hm with rfl | ⟨rfl, h⟩
    · congr 1; omega
    · rw [List.take_of_length_le (by simp), List.take_of_length_le (by simp; omega)]
  rw [e]
  unfold Lib.hasPrefix
  rcases s.data.toList.drop p with _ | ⟨x, _ | ⟨y, r⟩⟩
  · rfl
  · simp [List.isPrefixOf]
  · rw [Bool.eq_iff_iff]; simp [List.isPrefixOf]; constructor <;> (rintro ⟨rfl, rfl⟩; exact ⟨rfl, rfl⟩)
theorem bl_int (c : UInt8) : (((c.toNat : Int) == 32) || ((c.toNat : Int) == 9) || ((c.toNat : Int) == 13) || ((c.toNat : Int) == 10)) = blB c := by
  have : ((((c.toNat : Int) == 32) || ((c.toNat : Int) == 9) || ((c.toNat : Int) == 13) || ((c.toNat : Int) == 10)) == blB c) = true := fin8 (p := fun c => (((c.toNat : Int) == 32) || ((c.toNat : Int) == 9) || ((c.toNat : Int) == 13) || ((c.toNat : Int) == 10)) == blB c) (by decide +kernel) c
  simpa using this
/-- Where something is found, from a place on. -/
def IxR (X i d : Int) : Prop := (i = -1 ∧ X = -1) ∨ (∃ j : Nat, i = j ∧ X = d + j)
theorem IxR.start (i : Int) (h : -1 ≤ i) (d : Int) (hd : d = 0) : IxR i i d := by
  by_cases h1 : i = -1
  · exact .inl ⟨h1, h1⟩
  · obtain ⟨j, rfl⟩ := Int.eq_ofNat_of_zero_le (show 0 ≤ i by omega)
    exact .inr ⟨j, rfl, by omega⟩
theorem index_step (c : UInt8) (r : List UInt8) : Lib.index (c :: r) [42, 47] = if Lib.hasPrefix (c :: r) [42, 47] = true then 0 else if Lib.index r [42, 47] = -1 then -1 else Lib.index r [42, 47] + 1 := by
  rw [Lib.index]
  simp only [Lib.hasPrefix, beq_iff_eq]
  rfl
theorem IxR.next {X i i' d : Int} (h : IxR X i d) (e : i = if i' = -1 then -1 else i' + 1) (hi : -1 ≤ i') : IxR X i' (d + 1) := by
  by_cases h1 : i' = -1
  · rw [if_pos h1] at e
    rcases h with ⟨_, h⟩ | ⟨j, h2, h3⟩
    · exact .inl ⟨h1, h⟩
    · omega
  · rw [if_neg h1] at e
    rcases h with ⟨h2, _⟩ | ⟨j, h2, h3⟩
    · omega
    · exact .inr ⟨j - 1, by omega, by omega⟩
set_option maxRecDepth 100000 in
set_option maxHeartbeats 1000000 in
theorem refSkip_any (s : ByteArray) (p : Nat) (w : World) (hp : p ≤ s.size) (hs : s.size ≤ 1000000) : Calls Tryz.prog 46 #[.string s, .int .i64 p] w fun e w' => e = .returned (.tuple #[.int .i64 ((p + (skL (s.data.toList.drop p)).1 : Nat) : Int), .bool (skL (s.data.toList.drop p)).2]) ∧ Below w.heap.size w w' := by
  obtain ⟨N, O, hN, hO⟩ : ∃ N O, N = p + (skL (s.data.toList.drop p)).1 ∧ O = (skL (s.data.toList.drop p)).2 := ⟨_, _, rfl, rfl⟩
  rw [← hN, ← hO]
  have HN := Lib.hid hN
  have HO := Lib.hid hO
  clear hN hO
  go_enter Tryz.func46, Tryz.ntmps46
  go_wp2_with fail
  go_loopg [1] (s.size - p) (fun g v wr => ∃ p' : Nat, p' ≤ s.size ∧ g = s.size - p' ∧ v = .int .i64 p' ∧ Below w.heap.size w wr ∧ N = p' + (skL (s.data.toList.drop p')).1 ∧ O = (skL (s.data.toList.drop p')).2)
  case atStart => exact ⟨p, hp, rfl, rfl, Below.refl _ _, HN.out, HO.out⟩
  case round =>
    obtain ⟨q, hq, rfl, rfl, hb, hN, hO⟩ := hrel
    have HB := Lib.hid hb
    clear HN HO hb
    by_cases hlt : q < s.size
    · have hlt' : (q : Int) < (s.size : Int) := by omega
      have hd := drop_at s q hlt
      generalize hx : s[q] = c at *
      have hbi := bl_int c
      obtain ⟨m, hm, hmn⟩ : ∃ m : Nat, min ((q : Int) + 2) (s.size : Int) = (m : Int) ∧ (m = q + 2 ∨ (m = s.size ∧ s.size ≤ q + 2)) := by
        by_cases h : q + 2 ≤ s.size
        · exact ⟨q + 2, by omega, .inl rfl⟩
        · exact ⟨s.size, by omega, .inr ⟨rfl, by omega⟩⟩
      have t1 := two_at s q m hmn 47 47
      have t2 := two_at s q m hmn 47 42
      have hml : m ≤ s.size := by rcases hmn with h | h <;> omega
      have hqm : q ≤ m := by rcases hmn with h | h <;> omega
      cases hbl : blB c
      · have hc : c ≠ 32 ∧ c ≠ 9 ∧ c ≠ 13 ∧ c ≠ 10 := by unfold blB at hbl; simpa [and_assoc] using hbl
        have ne8 : ∀ z : UInt8, c ≠ z → ((c.toNat : Int) == (z.toNat : Int)) = false := fun z h => by
          simp only [beq_eq_false_iff_ne, ne_eq]; intro e; exact h (UInt8.toNat_inj.1 (by omega))
        have b1 : ((c.toNat : Int) == 32) = false := ne8 32 hc.1
        have b2 : ((c.toNat : Int) == 9) = false := ne8 9 hc.2.1
        have b3 : ((c.toNat : Int) == 13) = false := ne8 13 hc.2.2.1
        have b4 : ((c.toNat : Int) == 10) = false := ne8 10 hc.2.2.2
        clear ne8 hc
        cases hx1 : Lib.hasPrefix (s.data.toList.drop q) [47, 47]
        · cases hx2 : Lib.hasPrefix (s.data.toList.drop q) [47, 42]
          · rw [hx1] at t1
            rw [hx2] at t2
            have hsk : skL (s.data.toList.drop q) = (0, true) := by rw [hd] at hx1 hx2 ⊢; exact skL_stop hbl hx1 hx2
            rw [hsk] at hN hO
            obtain rfl : N = q := hN
            obtain rfl : O = true := hO
            clear hd hx1 hx2 hsk hbi hmn hbl
            go_wp2_with fail
            refine bodyPost_ret (v := .tuple #[.int .i64 (N : Nat), .bool true]) (by simp [results, Tryz.results46, go_sem]) rfl ⟨rfl, HB.out⟩
          · rw [hx1] at t1
            rw [hx2] at t2
            have hq2 : q + 2 ≤ s.size := by
              have h2 : (s.data.toList.drop q).length = s.size - q := by simp
              rw [hd] at hx2 h2
              obtain ⟨r', _, hr⟩ := pre_head hx2
              rw [hr] at h2
              simp only [List.length_cons] at h2
              omega
            obtain rfl : m = q + 2 := by omega
            have hdr2 : (c :: s.data.toList.drop (q + 1)).drop 2 = s.data.toList.drop (q + 2) := by rw [← hd, List.drop_drop]
            have hge := Lib.index_ge (s.data.toList.drop (q + 2)) [42, 47]
            obtain ⟨X, hX⟩ : ∃ X, X = Lib.index (s.data.toList.drop (q + 2)) [42, 47] := ⟨_, rfl⟩
            have HX := Lib.hid hX
            have HD := Lib.hid hd
            have HX1 := Lib.hid hx1
            have HX2 := Lib.hid hx2
            have HBL := Lib.hid hbl
            have HD2 := Lib.hid hdr2
            have HN := Lib.hid hN
            have HO := Lib.hid hO
            clear hX hd hx1 hx2 hbl hbi hdr2 hmn hN hO hge
            go_wp2_with fail
            go_loopg [7] (s.size - (q + 2)) (fun g v w2 => ∃ k : Nat, q + 2 ≤ k ∧ k ≤ s.size ∧ g = s.size - k ∧ v = .int .i64 k ∧ wr = w2 ∧ IxR X (Lib.index (s.data.toList.drop k) [42, 47]) ((k : Int) - (q + 2)))
            case atStart => exact ⟨q + 2, by omega, hq2, rfl, by go_num, rfl, by rw [HX.out]; exact IxR.start _ (Lib.index_ge _ _) _ (by omega)⟩
            case round =>
              obtain ⟨k, hqk, hk, rfl, rfl, rfl, hI⟩ := hrel
              by_cases hks : k + 1 < s.size
              · have hks' : (k : Int) + 1 < (s.size : Int) := by omega
                have t3 := two_at s k (k + 2) (.inl rfl) 42 47
                have hdk := drop_at s k (by omega)
                have hix := index_step s[k] (s.data.toList.drop (k + 1))
                rw [← hdk] at hix
                clear hdk
                cases hpr : Lib.hasPrefix (s.data.toList.drop k) [42, 47]
                · rw [hpr] at t3 hix
                  rw [if_neg (by simp)] at hix
                  have HI := Lib.hid (hI.next hix (Lib.index_ge _ _))
                  clear hI hix hpr
                  go_wp2_with fail
                  go_roundg (s.size - (k + 1))
                  case measure => omega
                  case rel => exact ⟨k + 1, by omega, by omega, rfl, by go_num, rfl, by have := HI.out; rw [show (k : Int) - (q + 2) + 1 = ((k + 1 : Nat) : Int) - (q + 2) by omega] at this; exact this⟩
                · rw [hpr] at t3 hix
                  rw [if_pos rfl] at hix
                  rw [hix] at hI
                  have hXk : X = (k : Int) - (q + 2) := by rcases hI with ⟨h, _⟩ | ⟨j, h, h2⟩ <;> omega
                  have hXi : X = ((k - (q + 2) : Nat) : Int) := by omega
                  have hXX := HX.out
                  rw [hXi] at hXX
                  have hsk := skL_remark HBL.out (by rw [← HD.out]; exact HX1.out) (by rw [← HD.out]; exact HX2.out) (by rw [HD2.out]; exact hXX.symm)
                  rw [← HD.out, List.drop_drop, show q + (4 + (k - (q + 2))) = k + 2 by omega] at hsk
                  have hN := HN.out
                  have hO := HO.out
                  rw [hsk] at hN hO
                  have HN3 := Lib.hid (show N = k + 2 + (skL (s.data.toList.drop (k + 2))).1 by rw [hN]; simp only; omega)
                  have HO3 := Lib.hid (show O = (skL (s.data.toList.drop (k + 2))).2 from hO)
                  clear hI hix hpr hXk hXi hXX hsk hN hO
                  go_wp2_with fail
                  go_roundg (s.size - (k + 2))
                  case measure => omega
                  case rel => exact ⟨k + 2, by omega, rfl, by go_num, HB.out, HN3.out, HO3.out⟩
              · have hks' : ¬ (k : Int) + 1 < (s.size : Int) := by omega
                have hks2 : (s.size : Int) ≤ (k : Int) + 1 := by omega
                have hm1 : Lib.index (s.data.toList.drop k) [42, 47] = -1 := by
                  have h1 := Lib.index_ge (s.data.toList.drop k) [42, 47]
                  have h2 := Lib.index_room (s.data.toList.drop k) [42, 47]
                  have h3 : (s.data.toList.drop k).length = s.size - k := by simp
                  simp only [List.length_cons, List.length_nil, h3] at h2
                  omega
                rw [hm1] at hI
                have hX1 : X = -1 := by rcases hI with ⟨_, h⟩ | ⟨j, h, h2⟩ <;> omega
                have hXX := HX.out
                have hsk := skL_open HBL.out (by rw [← HD.out]; exact HX1.out) (by rw [← HD.out]; exact HX2.out) (by rw [HD2.out, ← hXX]; omega)
                rw [← HD.out] at hsk
                have hN := HN.out
                have hO := HO.out
                rw [hsk] at hN hO
                obtain rfl : N = q := hN
                obtain rfl : O = false := hO
                clear hI hm1 hX1 hXX hsk
                go_wp2_with fail
                refine bodyPost_ret (v := .tuple #[.int .i64 (N : Nat), .bool false]) (by simp [results, Tryz.results46, go_sem]) rfl ⟨rfl, HB.out⟩
        · rw [hx1] at t1
          have hl2 := lnL_two (c := c) (r := s.data.toList.drop (q + 1)) (by rw [← hd]; exact hx1)
          have hll := lnL_le (s.data.toList.drop q)
          have hsk := skL_line (c := c) (r := s.data.toList.drop (q + 1)) hbl (by rw [← hd]; exact hx1)
          rw [← hd] at hsk hl2
          obtain ⟨M, hM⟩ : ∃ M, M = q + lnL (s.data.toList.drop q) := ⟨_, rfl⟩
          have hN2 : N = M + (skL (s.data.toList.drop M)).1 := by rw [hN, hsk, List.drop_drop, ← hM]; simp only; omega
          have hO2 : O = (skL (s.data.toList.drop M)).2 := by rw [hO, hsk, List.drop_drop, ← hM]
          have hMs : M ≤ s.size := by have : (s.data.toList.drop q).length = s.size - q := by simp
                                      omega
          have hMq : q < M := by omega
          have HN := Lib.hid hN2
          have HO := Lib.hid hO2
          have HM := Lib.hid hM
          clear hN hO hN2 hO2 hd t2 hbi hbl hx1 hl2 hll hsk hM hmn
          go_wp2_with fail
          go_loopg [1] (s.size - q) (fun g v w2 => ∃ k : Nat, k ≤ s.size ∧ g = s.size - k ∧ v = .int .i64 k ∧ wr = w2 ∧ M = k + lnL (s.data.toList.drop k))
          case atStart => exact ⟨q, hq, rfl, rfl, rfl, HM.out⟩
          case round =>
            obtain ⟨k, hk, rfl, rfl, rfl, hK⟩ := hrel
            by_cases hks : k < s.size
            · have hks' : (k : Int) < (s.size : Int) := by omega
              rw [drop_at s k hks, lnL] at hK
              generalize hy : s[k] = d at *
              by_cases hd10 : d = 10
              · have e1 : ((d.toNat : Int) != 10) = false := by rw [hd10]; rfl
                rw [if_pos hd10] at hK
                obtain rfl : M = k := by omega
                clear hK hd10
                go_wp2_with fail
                go_roundg (s.size - M)
                case measure => omega
                case rel => exact ⟨M, hMs, rfl, rfl, HB.out, HN.out, HO.out⟩
              · have e1 : ((d.toNat : Int) != 10) = true := by simp only [bne_iff_ne, ne_eq]; intro e; exact hd10 (UInt8.toNat_inj.1 (by show d.toNat = 10; omega))
                rw [if_neg hd10] at hK
                have HK := Lib.hid (show M = k + 1 + lnL (s.data.toList.drop (k + 1)) by omega)
                clear hK hd10
                go_wp2_with fail
                go_roundg (s.size - (k + 1))
                case measure => omega
                case rel => exact ⟨k + 1, by omega, rfl, by go_num, rfl, HK.out⟩
            · obtain rfl : k = s.size := by omega
              have h0 : s.data.toList.drop s.size = [] := List.drop_eq_nil_of_le (by simp)
              rw [h0] at hK
              obtain rfl : M = s.size := hK
              go_wp2_with fail
              go_roundg (s.size - s.size)
              case measure => omega
              case rel => exact ⟨s.size, hMs, rfl, rfl, HB.out, HN.out, HO.out⟩
      · have hN2 : N = q + 1 + (skL (s.data.toList.drop (q + 1))).1 := by rw [hN, hd, skL_blank hbl]; simp only; omega
        have hO2 : O = (skL (s.data.toList.drop (q + 1))).2 := by rw [hO, hd, skL_blank hbl]
        have HN := Lib.hid hN2
        have HO := Lib.hid hO2
        have hc : c = 32 ∨ c = 9 ∨ c = 13 ∨ c = 10 := by unfold blB at hbl; simpa [or_assoc] using hbl
        clear hN hO hN2 hO2 hd t1 t2 hbi hbl
        rcases hc with rfl | rfl | rfl | rfl
        all_goals
          go_wp2_with fail
          go_roundg (s.size - (q + 1))
          case measure => omega
          case rel => exact ⟨q + 1, by omega, rfl, by go_num, HB.out, HN.out, HO.out⟩
    · obtain rfl : q = s.size := by omega
      have h0 : s.data.toList.drop s.size = [] := List.drop_eq_nil_of_le (by simp)
      rw [h0] at hN hO
      obtain rfl : N = s.size := hN
      obtain rfl : O = true := hO
      go_wp2_with fail
      refine bodyPost_ret (v := .tuple #[.int .i64 (s.size : Nat), .bool true]) (by simp [results, Tryz.results46, go_sem]) rfl ⟨rfl, HB.out⟩
end Go.Proofs.YtoineheocipmaaaGreatDoor
