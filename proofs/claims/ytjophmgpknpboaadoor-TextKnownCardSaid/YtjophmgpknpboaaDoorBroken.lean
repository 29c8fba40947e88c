/-
  brokenAt, Valid, Runes.
-/
import Derived.Test.YtjophmgpknpboaaDoorRune
import Derived.Test.YtjophmgpknpboaaDoorUtf
import Derived.Laws.RangeAny
import Derived.Lib.OthersKept
import Derived.Lib.IndexBytes
namespace Go.Proofs.YtjophmgpknpboaaDoor
open Go.RowKit
set_option linter.unusedVariables false

theorem drop_ne {s : ByteArray} {pos : Nat} (h : pos < s.size) : s.data.toList.drop pos ≠ [] := by
  intro e
  have := congrArg List.length e
  simp at this
  omega
theorem dec_eq (s : ByteArray) (pos : Nat) : Lib.decodeL (s.data.toList.drop pos) = Utf8.decode s pos := Lib.decodeL_drop s pos
theorem bk_ok {s : ByteArray} {pos : Nat} (h : pos < s.size) (ho : okL (s.data.toList.drop pos) = true) : bkL pos (s.data.toList.drop pos) = bkL (pos + (Utf8.decode s pos).2) (s.data.toList.drop (pos + (Utf8.decode s pos).2)) := by
  rw [bkL_step _ _ (drop_ne h), if_pos ho, dec_eq, List.drop_drop]
theorem bk_bad {s : ByteArray} {pos : Nat} (h : pos < s.size) (ho : okL (s.data.toList.drop pos) = false) : bkL pos (s.data.toList.drop pos) = pos := by
  rw [bkL_step _ _ (drop_ne h), if_neg (by simp [ho])]
theorem bk_end {s : ByteArray} {pos : Nat} (h : ¬ pos < s.size) : bkL pos (s.data.toList.drop pos) = -1 := by
  rw [List.drop_eq_nil_of_le (by simp; omega), bkL_nil]

set_option maxRecDepth 100000 in
set_option maxHeartbeats 1000000 in
theorem brokenAt_any (s : ByteArray) (w : World) (hs : s.size ≤ 1000000) : Calls Tryd.prog 34 #[.string s] w fun e w' => e = .returned (.int .i64 (bkL 0 s.data.toList)) ∧ Below w.heap.size w w' := by
  obtain ⟨R, hR⟩ : ∃ R, R = bkL 0 s.data.toList := ⟨_, rfl⟩
  rw [← hR]
  have HR := Lib.hid hR
  clear hR
  go_enter Tryd.func34, Tryd.ntmps34
  go_wp2
  go_loopw [] (fun w' => ∃ pos : Nat, w' = w.iter s pos ∧ bkL pos (s.data.toList.drop pos) = R) (fun w' => s.size - w'.iterPos w.heap.size)
  case atStart => exact ⟨0, rfl, by rw [List.drop_zero]; exact HR.out.symm⟩
  case round =>
    obtain ⟨pos, rfl, hc⟩ := hrel
    have HC := Lib.hid hc
    clear hc
    have hbl : Below w.heap.size w (w.iter s pos) := (Below.refl _ _).alloc (Nat.le_refl _) _
    by_cases hp : pos < s.size
    · have hnx : ∀ ty, (Instr.next (.pointer (some ⟨w.heap.size, 0, none⟩)) true ty).run Tryd.prog (w.iter s pos) = _ := fun ty => run_next_any w s pos ty hp
      have hwd := Lib.width_pos s pos
      have hbl2 : Below w.heap.size w (w.iter s (pos + (Utf8.decode s pos).2)) := (Below.refl _ _).alloc (Nat.le_refl _) _
      have hok : okL (s.data.toList.drop pos) = !(((Utf8.decode s pos).1 : Int) == 65533 && !(Lib.hasPrefix (s.extract pos s.size).data.toList [239, 191, 189])) := by
        unfold okL
        rw [dec_eq, Lib.extract_to_end]
        congr 2
        rw [Bool.eq_iff_iff]; simp; omega
      have hpre : ∀ W : World, Calls Tryd.prog 52 #[.string (s.extract pos s.size), .string ⟨#[239, 191, 189]⟩] W fun e w' => e = .returned (.bool (Lib.hasPrefix (s.extract pos s.size).data.toList [239, 191, 189])) ∧ w' = W := fun W => Tryd.strings_HasPrefix _ _ W
      have hbad := bk_bad hp
      have hgood := bk_ok hp
      generalize okL (s.data.toList.drop pos) = ok at *
      obtain ⟨b, hb⟩ : ∃ b, Lib.hasPrefix (s.extract pos s.size).data.toList [239, 191, 189] = b := ⟨_, rfl⟩
      rw [hb] at hok
      simp only [hb] at hpre
      obtain ⟨D, hD⟩ : ∃ D : Nat × Nat, Utf8.decode s pos = D := ⟨_, rfl⟩
      rw [hD] at hwd hbl2 hgood hok
      simp only [hD] at hnx
      have HP := Lib.hid hpre
      have HOK := Lib.hid hok
      have HB := Lib.hid hbad
      have HG := Lib.hid hgood
      have hp0 : (0 : Int) ≤ (pos : Int) := by omega
      have hp1 : (pos : Int) ≤ (s.size : Int) := by omega
      clear hpre hok hbad hgood hb hD
      by_cases h65 : (D.1 : Int) = 65533
      · have e65 : ((D.1 : Int) == 65533) = true := by simp [h65]
        have H65 := Lib.hid e65
        clear h65
        cases b
        · go_wp2_with fail
          refine (HP.out _).mono ?_
          rintro e w' ⟨rfl, rfl⟩
          go_wp2
          go_ret
          have hok := HOK.out
          rw [H65.out] at hok
          refine ⟨ret_int ?_, hbl2⟩
          rw [← HC.out, HB.out hok]
        · go_wp2_with fail
          refine (HP.out _).mono ?_
          rintro e w' ⟨rfl, rfl⟩
          go_wp2
          go_roundw
          case rel => exact ⟨pos + D.2, rfl, by rw [← HC.out, HG.out (by rw [HOK.out]; simp)]⟩
          case measure => simp; omega
      · have e65 : ((D.1 : Int) == 65533) = false := by simp [h65]
        have H65 := Lib.hid e65
        clear h65
        go_wp2
        go_roundw
        case rel => exact ⟨pos + D.2, rfl, by rw [← HC.out, HG.out (by rw [HOK.out, H65.out]; simp)]⟩
        case measure => simp; omega
    · have hnx : ∀ ty, (Instr.next (.pointer (some ⟨w.heap.size, 0, none⟩)) true ty).run Tryd.prog (w.iter s pos) = _ := fun ty => run_next_end w s pos ty hp
      go_wp2
      go_ret
      exact ⟨ret_int (by rw [← HC.out, bk_end hp]), hbl⟩

set_option maxRecDepth 100000 in
set_option maxHeartbeats 1000000 in
theorem valid_any {w : World} {lo hi n c : Nat} {A : Option Addr} {l : List UInt8} (hB : Bs w lo hi A n c l) (hn : n ≤ 1000000) :
    Calls Tryd.prog 19 #[.slice A n c] w fun e w' => e = .returned (.bool (decide (bkL 0 l < 0))) ∧ Below w.heap.size w w' := by
  have hcv := hB.convert (P := Tryd.prog) 22 5 9 Tryd.underlying22 Tryd.underlying5 Tryd.underlying9
  have hb := brokenAt_any ⟨l.toArray⟩ w (by have := hB.len; show l.toArray.size ≤ _; simp; omega)
  have e : (⟨l.toArray⟩ : ByteArray).data.toList = l := by simp
  rw [e] at hb
  generalize bkL 0 l = R at *
  have HB := Lib.hid hb
  clear hb hB e
  by_cases h : R < 0
  all_goals
    go_enter Tryd.func19, Tryd.ntmps19
    go_wp2_with fail
    refine HB.out.mono ?_
    rintro e w1 ⟨rfl, hb1⟩
    go_wp2
    go_ret
    exact ⟨ret_bool (by simp; try omega), hb1⟩
end Go.Proofs.YtjophmgpknpboaaDoor
