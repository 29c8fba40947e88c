/-
  TextKeys, walked.
-/
import Derived.Test.YtjophmgpknpboaaDoorWorks
import Derived.Test.YtjophmgpknpboaaDoorKeyMath
import Derived.Deep.LoopGhost
namespace Go.Proofs.YtjophmgpknpboaaDoor
open Go.RowKit
set_option linter.unusedVariables false
set_option linter.unusedSimpArgs false

/-- Strings, joined. -/
theorem str_add (a b : ByteArray) (h : a.size + b.size ≤ 1000000000) : ∃ c : ByteArray, (∀ W, (Op.stringOp .add a b).run Tryd.prog W = .ok (.string c) W) ∧ c.data.toList = a.data.toList ++ b.data.toList :=
  ⟨a ++ b, fun W => run_string_add_sum W _ _ (by omega), by simp⟩
/-- string([]byte{z}). -/
theorem conv_one (z : Int) (h0 : 0 ≤ z) (h1 : z < 256) (W : World) : (convert 22 9 (.slice (some ⟨W.heap.size, 0, none⟩) 1 1)).run Tryd.prog (W.alloc (.cells #[.int .u8 z] 5)) = .ok (.string ⟨#[UInt8.ofNat z.toNat]⟩) (W.alloc (.cells #[.int .u8 z] 5)) :=
  (Bs.single W z h0 h1).convert (P := Tryd.prog) 22 5 9 Tryd.underlying22 Tryd.underlying5 Tryd.underlying9
theorem kTab_get (k : Nat) (h : k < 10) : (⟨#[97, 98, 99, 120, 121, 122, 48, 49, 56, 57]⟩ : ByteArray)[k]'h = kTab.getD k 0 := by
  have : ∀ q : Fin 10, (⟨#[97, 98, 99, 120, 121, 122, 48, 49, 56, 57]⟩ : ByteArray)[q.val]'q.isLt = kTab.getD q.val 0 := by decide
  exact this ⟨k, h⟩

theorem kB_up (c : UInt8) (h0 : 65 ≤ c.toNat) (h1 : c.toNat ≤ 90) : UInt8.ofNat ((c.toNat : Int) - 65 + 97).toNat = c - 65 + 97 := by
  have := fin8 (p := fun c => !(decide (65 ≤ c.toNat) && decide (c.toNat ≤ 90)) || decide (UInt8.ofNat ((c.toNat : Int) - 65 + 97).toNat = c - 65 + 97)) (by decide +kernel) c
  simpa [h0, h1] using this
theorem bytes_ext {a b : ByteArray} (h : a.data.toList = b.data.toList) : a = b := by
  cases a; cases b
  simp only [ByteArray.mk.injEq]
  exact Array.toList_inj.1 h

set_option maxRecDepth 100000 in
set_option maxHeartbeats 1000000 in
theorem keys_any (s : ByteArray) (w : World) (m : Int) (hs : s.size ≤ maxLen) (hm : w.cell? ⟨0, 0, none⟩ = some (.int .i64 m)) : Calls Tryd.prog 10 #[.string s] w fun e w' => e = .returned (.bool true) ∧ Below w.heap.size w w' := by
  unfold maxLen at hs
  have h0 : 0 < w.heap.size := World.block_lt_of_cell? w _ hm
  have hM : ∀ W, Below w.heap.size w W → W.cell? ⟨0, 0, none⟩ = some (.int .i64 m) := fun W h => (h.cell (p := ⟨0, 0, none⟩) h0).trans hm
  have HM := Lib.hid hM
  clear hM hm
  have hx : (s.extract 0 (min (↑s.size) 100 : Int).toNat).size ≤ 100 := by simp [ByteArray.size_extract]; omega
  have HX := Lib.hid hx
  clear hx
  go_enter Tryd.func10, Tryd.ntmps10
  go_wp2_with fail
  generalize s.extract 0 (min (↑s.size) 100 : Int).toNat = t at *
  have ht := HX.out
  obtain ⟨kb, hkl, hk1, hk2, hno⟩ : ∃ kb : ByteArray, kb.size ≤ t.size ∧ (∀ W, Calls Tryd.prog 26 #[.string t] W fun e w' => e = .returned (.string kb) ∧ Below W.heap.size W w') ∧ (∀ W, Calls Tryd.prog 26 #[.string kb] W fun e w' => e = .returned (.string kb) ∧ Below W.heap.size W w') ∧ (∀ x ∈ kb.data.toList, x.toNat ≠ 95) := by
    have hkl := keyF_len false t.data.toList
    have htl : t.data.toList.length = t.size := by simp
    have hKs : (⟨(keyF false t.data.toList).toArray⟩ : ByteArray).size = (keyF false t.data.toList).length := by show (keyF false t.data.toList).toArray.size = _; simp
    have e1 : (⟨(keyF false t.data.toList).toArray⟩ : ByteArray).data.toList = keyF false t.data.toList := by simp
    refine ⟨⟨(keyF false t.data.toList).toArray⟩, by omega, fun W => key_any t W (by omega), fun W => ?_, by rw [e1]; exact keyF_no false _⟩
    have := key_any ⟨(keyF false t.data.toList).toArray⟩ W (by omega)
    rw [e1, keyF_id _ (keyF_no false _)] at this
    exact this
  have C1 := Lib.hid hk1
  have C2 := Lib.hid hk2
  have hle : ¬ (t.size : Int) < (kb.size : Int) := by omega
  have HN := Lib.hid hno
  clear hk1 hk2 hno
  refine (C1.out _).mono ?_
  rintro e w1 ⟨rfl, hb1⟩
  have HB := Lib.hid hb1
  clear hb1
  go_wp2_with fail
  refine (C2.out _).mono ?_
  rintro e w2 ⟨rfl, hb2⟩
  replace HB := Lib.hid (HB.out.trans (hb2.mono HB.out.size))
  clear hb2
  go_wp2_with fail
  have hnb0 : (⟨#[97]⟩ : ByteArray).data.toList = kName (t.data.toList.take 0) := by simp [kName]
  have HNB := Lib.hid hnb0
  clear hnb0
  go_loopw [4, 5] (fun a j wr => ∃ (nb : ByteArray) (i : Nat), a = .string nb ∧ j = .int .i64 i ∧ i ≤ t.size ∧ nb.data.toList = kName (t.data.toList.take i) ∧ Below w.heap.size w wr) (fun _ j _ => t.size - (intOf j).toNat)
  case atStart => exact ⟨_, 0, rfl, rfl, by omega, HNB.out, HB.out⟩
  case round =>
    obtain ⟨nb, i, rfl, rfl, hi, hnb, hbw⟩ := hrel
    clear HB HNB
    have HBW := Lib.hid hbw
    have HNB := Lib.hid hnb
    clear hbw hnb
    by_cases hlt : i < t.size
    · have hlt' : (i : Int) < (t.size : Int) := by omega
      have hi0 : (0 : Int) ≤ (i : Int) := by omega
      have hc := t[i].toNat_lt
      have hsl : t.data.toList.length = t.size := by simp
      have hnbs : nb.size ≤ 201 := by
        have h1 : nb.data.toList.length = nb.size := by simp
        have h2 := kName_len (t.data.toList.take i)
        rw [← HNB.out] at h2
        simp only [List.length_take] at h2
        omega
      have htake : t.data.toList.take (i + 1) = t.data.toList.take i ++ [t[i]] := nth_take t.data.toList i (by omega)
      have hnm : kName (t.data.toList.take (i + 1)) = nb.data.toList ++ kN t[i] := by rw [htake, kName_snoc, HNB.out]
      obtain ⟨x, hx⟩ : ∃ x, t[i] = x := ⟨_, rfl⟩
      rw [hx] at hnm hc
      have hget := kTab_get (x.toNat % 10) (by omega)
      have hz : ((⟨#[97, 98, 99, 120, 121, 122, 48, 49, 56, 57]⟩ : ByteArray)[x.toNat % 10]'(by show _ < 10; omega)).toNat = (kC x).toNat := by rw [hget]; rfl
      have hkN : kN x = if kU x then [95, kC x] else [kC x] := rfl
      have hkU : kU x = (decide (x.toNat % 3 = 0) && decide (97 ≤ (kC x).toNat)) := rfl
      have hz1 := (kC x).toNat_lt
      generalize hkc : kC x = y at *
      obtain ⟨n1, a1, l1⟩ := str_add nb ⟨#[95]⟩ (by show nb.size + 1 ≤ _; omega)
      have hn1 : n1.size ≤ 202 := by
        have h1 : n1.data.toList.length = n1.size := by simp
        have h2 : nb.data.toList.length = nb.size := by simp
        rw [l1] at h1; simp at h1 h2; omega
      have hy : (UInt8.ofNat ((y.toNat : Nat) : Int).toNat) = y := by simp
      obtain ⟨n2, a2, l2⟩ := str_add nb ⟨#[y]⟩ (by show nb.size + 1 ≤ _; omega)
      obtain ⟨n3, a3, l3⟩ := str_add n1 ⟨#[y]⟩ (by show n1.size + 1 ≤ _; omega)
      have hcv := fun W => conv_one (y.toNat : Nat) (by omega) (by omega) W
      rw [hy] at hcv
      have L1 := Lib.hid l1
      have L2 := Lib.hid l2
      have L3 := Lib.hid l3
      have HNM := Lib.hid hnm
      have HKN := Lib.hid hkN
      have HKU := Lib.hid hkU
      have HBN : ∀ o : Obj, Below w.heap.size w (wr.alloc o) := fun o => HBW.out.alloc HBW.out.size o
      have HBO := Lib.hid HBN
      clear l1 l2 l3 hnm hkN hkU hget htake hsl HBN hkc hy
      have hix : (((t[i] : UInt8)).toNat : Nat) = x.toNat := by rw [hx]
      clear hx
      have q0 : (0 : Int) ≤ (x.toNat : Int) % 10 := by omega
      have q1 : (x.toNat : Int) % 10 < 10 := by omega
      have q2 : ((x.toNat : Int) % 10).toNat = x.toNat % 10 := by omega
      by_cases c3 : x.toNat % 3 = 0
      · have c3' : ((x.toNat : Int) % 3 == 0) = true := by simp; omega
        by_cases c97 : 97 ≤ y.toNat
        · have hu : kU x = true := by rw [HKU.out]; simp [c3, c97]
          have HU := Lib.hid hu
          have c97' : (97 : Int) ≤ (y.toNat : Int) := by omega
          clear hu c3
          go_wp2_with fail
          go_roundw
          case rel => exact ⟨n3, i + 1, rfl, by go_num, by omega, by rw [HNM.out, HKN.out, HU.out, L3.out, L1.out]; simp, HBO.out _⟩
          case measure => simp [intOf]; omega
        · have hu : kU x = false := by rw [HKU.out]; simp; omega
          have HU := Lib.hid hu
          have c97' : ¬ (97 : Int) ≤ (y.toNat : Int) := by omega
          clear hu c3
          go_wp2_with fail
          go_roundw
          case rel => exact ⟨n2, i + 1, rfl, by go_num, by omega, by rw [HNM.out, HKN.out, HU.out, L2.out]; simp, HBO.out _⟩
          case measure => simp [intOf]; omega
      · have c3' : ((x.toNat : Int) % 3 == 0) = false := by simp; omega
        have hu : kU x = false := by rw [HKU.out]; simp [c3]
        have HU := Lib.hid hu
        clear hu c3
        go_wp2_with fail
        go_roundw
        case rel => exact ⟨n2, i + 1, rfl, by go_num, by omega, by rw [HNM.out, HKN.out, HU.out, L2.out]; simp, HBO.out _⟩
        case measure => simp [intOf]; omega
    · have hlt' : ¬ (i : Int) < (t.size : Int) := by omega
      have hsl : t.data.toList.length = t.size := by simp
      have hfull : nb.data.toList = kName t.data.toList := by rw [HNB.out, List.take_of_length_le (by omega)]
      have hnl : nb.data.toList.length = nb.size := by simp
      have hnbs : nb.size ≤ 201 := by
        have h2 := kName_len t.data.toList
        rw [← hfull] at h2
        omega
      obtain ⟨k2, hk2s, hk2c, hk2b⟩ : ∃ k2 : ByteArray, k2.size ≤ 201 ∧ (∀ W, Calls Tryd.prog 26 #[.string nb] W fun e w' => e = .returned (.string k2) ∧ Below W.heap.size W w') ∧ kBack k2.data.toList = nb.data.toList := by
        have hl := keyF_len false nb.data.toList
        have e1 : (⟨(keyF false nb.data.toList).toArray⟩ : ByteArray).data.toList = keyF false nb.data.toList := by simp
        refine ⟨⟨(keyF false nb.data.toList).toArray⟩, by show (keyF false nb.data.toList).toArray.size ≤ _; simp; omega, fun W => key_any nb W (by omega), ?_⟩
        rw [e1, hfull]
        exact name_back _
      have HK2 := Lib.hid hk2c
      have HKB := Lib.hid hk2b
      clear hk2c hk2b hfull hnl hsl HNB
      go_wp2_with fail
      refine (HK2.out _).mono ?_
      rintro e w3 ⟨rfl, hb3⟩
      have HB3 := Lib.hid (HBW.out.trans (hb3.mono HBW.out.size))
      clear hb3 HK2 HBW
      go_wp2_with fail
      have hbk0 : (⟨#[]⟩ : ByteArray).data.toList = kBack (k2.data.toList.take 0) := by simp [kBack]
      have HB0 := Lib.hid hbk0
      clear hbk0
      go_loopw [7, 9] (fun a j wr => ∃ (bk : ByteArray) (i : Nat), a = .string bk ∧ j = .int .i64 i ∧ i ≤ k2.size ∧ bk.data.toList = kBack (k2.data.toList.take i) ∧ Below w.heap.size w wr) (fun _ j _ => k2.size - (intOf j).toNat)
      case atStart => exact ⟨_, 0, rfl, rfl, by omega, HB0.out, HB3.out⟩
      case round =>
        obtain ⟨bk, j, rfl, rfl, hj, hbk, hbw⟩ := hrel
        have HBW := Lib.hid hbw
        have HBK := Lib.hid hbk
        clear hbw hbk HB3 HB0
        have hkl : k2.data.toList.length = k2.size := by simp
        have hbks : bk.size ≤ 402 := by
          have h1 : bk.data.toList.length = bk.size := by simp
          have h2 := kBack_len (k2.data.toList.take j)
          rw [← HBK.out] at h2
          simp only [List.length_take] at h2
          omega
        by_cases hjt : j < k2.size
        · have hjt' : (j : Int) < (k2.size : Int) := by omega
          have hj0 : (0 : Int) ≤ (j : Int) := by omega
          have htake : k2.data.toList.take (j + 1) = k2.data.toList.take j ++ [k2[j]] := nth_take k2.data.toList j (by omega)
          have hnm : kBack (k2.data.toList.take (j + 1)) = bk.data.toList ++ kB k2[j] := by rw [htake, kBack_snoc, HBK.out]
          have hc := k2[j].toNat_lt
          have hup := kB_up k2[j]
          have hkB : kB k2[j] = if 65 ≤ k2[j].toNat ∧ k2[j].toNat ≤ 90 then [95, k2[j] - 65 + 97] else [k2[j]] := rfl
          generalize hx : k2[j] = x at *
          obtain ⟨n1, a1, l1⟩ := str_add bk ⟨#[95]⟩ (by show bk.size + 1 ≤ _; omega)
          have hn1 : n1.size ≤ 403 := by
            have h1 : n1.data.toList.length = n1.size := by simp
            have h2 : bk.data.toList.length = bk.size := by simp
            rw [l1] at h1; simp at h1 h2; omega
          have hBN : ∀ o : Obj, Below w.heap.size w (wr.alloc o) := fun o => HBW.out.alloc HBW.out.size o
          have HBO := Lib.hid hBN
          have HNM := Lib.hid hnm
          have L1 := Lib.hid l1
          have hix : ((k2[j] : UInt8).toNat : Nat) = x.toNat := by rw [hx]
          by_cases hup1 : 65 ≤ x.toNat ∧ x.toNat ≤ 90
          · obtain ⟨u1, u2⟩ := hup1
            rw [if_pos ⟨u1, u2⟩] at hkB
            have u1' : (65 : Int) ≤ (x.toNat : Int) := by omega
            have u2' : (x.toNat : Int) ≤ 90 := by omega
            have hcv := fun W => conv_one ((x.toNat : Int) - 65 + 97) (by omega) (by omega) W
            rw [hup u1 u2] at hcv
            obtain ⟨n3, a3, l3⟩ := str_add n1 ⟨#[x - 65 + 97]⟩ (by show n1.size + 1 ≤ _; omega)
            have L3 := Lib.hid l3
            have HKB2 := Lib.hid hkB
            clear l1 l3 hkB hnm htake hBN hkl hup hx
            go_wp2_with fail
            go_roundw
            case rel => exact ⟨n3, j + 1, rfl, by go_num, by omega, by rw [HNM.out, HKB2.out, L3.out, L1.out]; simp, HBO.out _⟩
            case measure => simp [intOf]; omega
          · rw [if_neg hup1] at hkB
            have hy : (UInt8.ofNat ((x.toNat : Nat) : Int).toNat) = x := by simp
            have hcv := fun W => conv_one (x.toNat : Nat) (by omega) (by omega) W
            rw [hy] at hcv
            obtain ⟨n2, a2, l2⟩ := str_add bk ⟨#[x]⟩ (by show bk.size + 1 ≤ _; omega)
            have L2 := Lib.hid l2
            have HKB2 := Lib.hid hkB
            have hu : ((x.toNat : Int) < 65) ∨ ((65 : Int) ≤ (x.toNat : Int) ∧ (90 : Int) < (x.toNat : Int)) := by omega
            clear l1 l2 hkB hnm htake hBN hkl hup hx hup1 hy
            rcases hu with u | ⟨u, u'⟩
            all_goals
              go_wp2_with fail
              go_roundw
              case rel => exact ⟨n2, j + 1, rfl, by go_num, by omega, by rw [HNM.out, HKB2.out, L2.out], HBO.out _⟩
              case measure => simp [intOf]; omega
        · have hjt' : ¬ (j : Int) < (k2.size : Int) := by omega
          obtain rfl : bk = nb := bytes_ext (by rw [HBK.out, List.take_of_length_le (by omega), HKB.out])
          clear hkl HBK HKB
          go_wp2_with fail
          go_loop [11] (fun q => ∃ i : Nat, q = .int .i64 i ∧ i ≤ kb.size) (fun q => kb.size - (intOf q).toNat)
          case atStart => exact ⟨0, rfl, by omega⟩
          case round =>
            obtain ⟨r, rfl, hr⟩ := hrel
            by_cases hrt : r < kb.size
            · have hrt' : (r : Int) < (kb.size : Int) := by omega
              have hr0 : (0 : Int) ≤ (r : Int) := by omega
              have h95 : (((kb[r].toNat : Nat) : Int) == 95) = false := by
                have := HN.out kb[r] (by rw [str_at kb r hrt]; exact List.getElem_mem _)
                simp; omega
              go_wp2_with fail
              go_round
              case rel => exact ⟨r + 1, by go_num, by omega⟩
              case measure => simp [intOf]; omega
            · have hrt' : ¬ (r : Int) < (kb.size : Int) := by omega
              go_wp2_with fail
              refine (works_any _ m (HM.out _ HBW.out)).mono ?_
              rintro e w4 ⟨rfl, hb4⟩
              replace HBW := Lib.hid (HBW.out.trans (hb4.mono HBW.out.size))
              clear hb4
              go_wp2_with fail
              go_ret
              exact ⟨rfl, HBW.out⟩
end Go.Proofs.YtjophmgpknpboaaDoor
