/-
  IsFull.
-/
import Derived.Test.YtjophmgpknpboaaDoorNames
import Derived.Lib.SplitLaws
namespace Go.Proofs.YtjophmgpknpboaaDoor
open Go.RowKit
set_option linter.unusedVariables false

def dot : ByteArray := ⟨#[46]⟩
/-- The parts of a text between periods. -/
def partsB (s : ByteArray) : List ByteArray := Lib.splitB dot 0 (Lib.countB s dot) s
def fullS (s : ByteArray) : Bool := decide (s.size ≤ 128) && (partsB s).all fun p => identL p.data.toList
theorem splitB_size (sep : ByteArray) : ∀ (k : Nat) (s : ByteArray), ∀ p ∈ Lib.splitB sep 0 k s, p.size ≤ s.size
  | 0, s, p, h => by
    rw [Lib.splitB_zero] at h; simp at h; subst h; exact Nat.le_refl _
  | k + 1, s, p, h => by
    unfold Lib.splitB at h
    split at h
    · simp at h; subst h; exact Nat.le_refl _
    · rcases List.mem_cons.1 h with rfl | h
      · simp [ByteArray.size_extract]; omega
      · have := splitB_size sep k _ p h
        simp only [ByteArray.size_extract] at this
        omega
theorem partsB_len (s : ByteArray) : (partsB s).length = Lib.countB s dot + 1 := Lib.splitB_all dot (by decide) 0 _ s rfl

set_option maxRecDepth 100000 in
set_option maxHeartbeats 1000000 in
theorem isFull_any (s : ByteArray) (w : World) (m : Int) (hs : s.size ≤ 1000000) (hm : w.cell? ⟨0, 0, none⟩ = some (.int .i64 m)) :
    Calls Tryd.prog 24 #[.string s] w fun e w' => e = .returned (.bool (fullS s)) ∧ Below w.heap.size w w' := by
  have hf : fullS s = (decide (s.size ≤ 128) && (partsB s).all fun p => identL p.data.toList) := rfl
  have hsp := Tryd.strings_Split s dot m w (by omega) hm (by decide)
  have hlen := partsB_len s
  have hsz : ∀ p ∈ partsB s, p.size ≤ s.size := splitB_size dot _ s
  have hsp' : Calls Tryd.prog 46 #[.string s, .string ⟨#[46]⟩] w fun e w' => e = .returned (.slice (some ⟨w.heap.size, 0, none⟩) (partsB s).length (partsB s).length) ∧ w' = w.alloc (.cells ((partsB s).map Value.string).toArray 9) := by
    rw [hlen]; exact hsp
  have hcl := Lib.countB_le dot (by decide) s.size s (Nat.le_refl _)
  have hNb : (partsB s).length ≤ 1000001 := by omega
  clear hsp hlen hcl
  generalize partsB s = ps at *
  obtain ⟨R, hR⟩ : ∃ R, R = fullS s := ⟨_, rfl⟩
  rw [← hR] at hf ⊢
  obtain ⟨N, hN⟩ : ∃ N, ps.length = N := ⟨_, rfl⟩
  simp only [hN] at hsp' hNb
  have HF := Lib.hid hf
  have HSP := Lib.hid hsp'
  have HN := Lib.hid hN
  have HSZ := Lib.hid hsz
  clear hR hf hsp' hN hsz
  by_cases h128 : s.size ≤ 128
  · have h128' : ¬ (128 : Int) < (s.size : Int) := by omega
    go_enter Tryd.func24, Tryd.ntmps24
    go_wp2_with fail
    refine HSP.out.mono ?_
    rintro e w1 ⟨rfl, hw1⟩
    have hb : Below w.heap.size w w1 := by rw [hw1]; exact (Below.refl _ _).alloc (Nat.le_refl _) _
    have hcell : ∀ (i : Nat) (h : i < ps.length), w1.cell? ⟨w.heap.size, i, none⟩ = some (.string ps[i]) := by
      intro i h
      rw [hw1, cell_of_row _ w.heap.size i (ps.map Value.string).toArray 9 (0, 0) (heap_alloc_new w _)]
      simp [h]
    have HC := Lib.hid hcell
    clear hw1 hcell
    go_wp2_with fail
    go_loop [11] (fun j => ∃ i : Nat, j = .int .i64 i ∧ i ≤ N ∧ (ps.take i).all (fun p => identL p.data.toList) = true) (fun j => N - (intOf j).toNat)
    case atStart => exact ⟨0, rfl, by omega, by simp⟩
    case round =>
      obtain ⟨i, rfl, hin, hall⟩ := hrel
      have HA := Lib.hid hall
      clear hall
      by_cases hlt : i < N
      · have hil : i < ps.length := by have := HN.out; omega
        have hc := HC.out i hil
        obtain ⟨p, hp⟩ : ∃ p, ps[i] = p := ⟨_, rfl⟩
        rw [hp] at hc
        have hpz := HSZ.out p (by rw [← hp]; exact List.getElem_mem _)
        have hid := isIdent_any p w1 (by unfold maxLen; omega)
        obtain ⟨b, hb'⟩ : ∃ b, identL p.data.toList = b := ⟨_, rfl⟩
        rw [hb'] at hid
        have HID := Lib.hid hid
        have HB := Lib.hid hb'
        have HP := Lib.hid hp
        have hi0' : (0 : Int) ≤ (i : Int) := by omega
        have hi1' : (i : Int) < (N : Int) := by omega
        clear hid hb' hp
        cases b
        · go_wp2_with fail
          refine HID.out.mono ?_
          rintro e _ ⟨rfl, rfl⟩
          go_wp2
          go_ret
          refine ⟨ret_bool ?_, hb⟩
          have hal : ps.all (fun p => identL p.data.toList) = false := by
            rw [← List.take_append_drop (i + 1) ps, List.all_append, List.take_succ_eq_append_getElem hil, List.all_append]
            simp only [List.all_cons, List.all_nil, Bool.and_true, HP.out, HB.out]
            simp
          rw [HF.out, hal]; simp
        · go_wp2_with fail
          refine HID.out.mono ?_
          rintro e _ ⟨rfl, rfl⟩
          go_wp2_with fail
          go_round
          case rel =>
            refine ⟨i + 1, by go_num, by omega, ?_⟩
            rw [List.take_succ_eq_append_getElem hil, List.all_append, HA.out]
            simp only [List.all_cons, List.all_nil, Bool.and_true, HP.out, HB.out]
          case measure => simp [intOf]; omega
      · go_wp2
        go_ret
        refine ⟨ret_bool ?_, hb⟩
        have h2 := HA.out
        rw [List.take_of_length_le (by have := HN.out; omega)] at h2
        rw [HF.out, h2]; simp; omega
  · have h128' : (128 : Int) < (s.size : Int) := by omega
    go_enter Tryd.func24, Tryd.ntmps24
    go_wp2
    go_ret
    exact ⟨ret_bool (by rw [HF.out]; simp; omega), Below.refl _ _⟩
end Go.Proofs.YtjophmgpknpboaaDoor
