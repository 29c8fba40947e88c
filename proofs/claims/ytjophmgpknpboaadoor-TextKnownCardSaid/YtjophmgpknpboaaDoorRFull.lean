/-
  The document's IsFull.
-/
import Derived.Test.YtjophmgpknpboaaDoorFull
import Derived.Test.YtjophmgpknpboaaDoorRIdent
import Derived.Test.YtjophmgpknpboaaDoorDigits
namespace Go.Proofs.YtjophmgpknpboaaDoor
open Go.RowKit
set_option linter.unusedVariables false
set_option linter.unusedSimpArgs false

/-- Is each part, up to a period or the end, an identifier? acc stands ahead of the first one. -/
def fullF (acc : List UInt8) : List UInt8 → Bool
  | [] => identL acc
  | c :: r => if c = 46 then identL acc && fullF [] r else fullF (acc ++ [c]) r
theorem fullF_app (r : List UInt8) : ∀ (p acc : List UInt8), (∀ c ∈ p, c ≠ 46) → fullF acc (p ++ r) = fullF (acc ++ p) r
  | [], acc, _ => by simp
  | c :: p, acc, h => by
    rw [List.cons_append, fullF, if_neg (h c (by simp)), fullF_app r p (acc ++ [c]) (fun x hx => h x (by simp [hx]))]
    simp
theorem full_split : ∀ (n : Nat) (s : ByteArray), s.size ≤ n → ((partsB s).all fun p => identL p.data.toList) = fullF [] s.data.toList := by
  intro n
  induction n with
  | zero =>
    intro s hs
    have hl : s.data.toList = [] := List.eq_nil_of_length_eq_zero (by show s.data.size = 0; have : s.data.size = s.size := rfl; omega)
    have hi : Lib.indexB s dot = -1 := by
      show Lib.index s.data.toList [46] = -1
      rw [hl]; rfl
    unfold partsB
    rw [Lib.splitB_miss _ _ _ _ hi, hl]
    simp [fullF, hl]
  | succ n ih =>
    intro s hs
    unfold partsB
    rcases Lib.indexB_cases s dot with hi | ⟨i, hi, hle⟩
    · rw [Lib.splitB_miss _ _ _ _ hi]
      have h1 : Lib.index s.data.toList [46] = -1 := hi
      rw [Lib.index_one] at h1
      have hno := Lib.indexByte_none h1
      have := fullF_app [] s.data.toList [] (fun c hc => by
        obtain ⟨k, hk, rfl⟩ := List.getElem_of_mem hc
        intro e
        exact hno k (by rw [List.getElem?_eq_getElem hk, e]))
      rw [List.append_nil] at this
      rw [this]
      simp [fullF]
    · have hd1 : dot.size = 1 := rfl
      rw [Lib.countB_hit s dot i (by decide) hi, Nat.add_comm, Lib.splitB_hit _ _ _ _ _ hi]
      have h1 : Lib.index s.data.toList [46] = i := hi
      rw [Lib.index_one] at h1
      obtain ⟨ha, hno⟩ := Lib.indexByte_some h1
      have hsz : i < s.data.toList.length := by simp; omega
      have hg : s.data.toList[i] = 46 := by
        rw [List.getElem?_eq_getElem hsz] at ha
        exact Option.some.inj ha
      have hsplit : s.data.toList = s.data.toList.take i ++ 46 :: s.data.toList.drop (i + 1) := by
        conv => lhs; rw [← List.take_append_drop i s.data.toList, List.drop_eq_getElem_cons hsz, hg]
      have hr := ih (s.extract (i + dot.size) s.size) (by simp [ByteArray.size_extract]; omega)
      have hf := fullF_app (46 :: s.data.toList.drop (i + 1)) (s.data.toList.take i) [] (fun c hc => by
        obtain ⟨k, hk, rfl⟩ := List.getElem_of_mem hc
        intro e
        simp only [List.length_take] at hk
        refine hno k (by omega) ?_
        rw [List.getElem?_eq_getElem (by omega)]
        rw [List.getElem_take] at e
        rw [e])
      rw [← hsplit] at hf
      rw [hf, fullF, if_pos rfl, List.all_cons]
      have e2 : (s.extract 0 (i + 0)).data.toList = s.data.toList.take i := by
        simp [ByteArray.data_extract, Array.toList_extract, List.extract_eq_take_drop]
      have e3 : (s.extract (i + dot.size) s.size).data.toList = s.data.toList.drop (i + 1) := by
        rw [Lib.extract_to_end, hd1]
      have e4 : ((Lib.splitB dot 0 (Lib.countB (s.extract (i + dot.size) s.size) dot) (s.extract (i + dot.size) s.size)).all fun p => identL p.data.toList) = fullF [] (s.data.toList.drop (i + 1)) := by
        rw [← e3]; exact hr
      rw [e2, e4]
      simp
theorem fullS_eq (s : ByteArray) : fullS s = (decide (s.size ≤ 128) && fullF [] s.data.toList) := by
  unfold fullS
  rw [full_split s.size s (Nat.le_refl _)]

theorem extract_mid (s : ByteArray) (a b : Nat) : (s.extract a b).data.toList = (s.data.toList.drop a).take (b - a) := by
  simp [ByteArray.data_extract, Array.toList_extract, List.extract_eq_take_drop]
structure FlR (s : ByteArray) (R : Bool) (st i : Nat) : Prop where
  le : st ≤ i
  hi : i ≤ s.size + 1
  now : i ≤ s.size → fullF (s.extract st i).data.toList (s.data.toList.drop i) = R
  fin : i = s.size + 1 → R = true
theorem FlR.part {s : ByteArray} {R : Bool} {st i : Nat} (h : FlR s R st i) (hi : i ≤ s.size) (hd : i = s.size ∨ ∃ hs : i < s.size, ((s[i].toNat : Nat) : Int) = 46) :
    (identL (s.extract st i).data.toList = false → R = false) ∧ (identL (s.extract st i).data.toList = true → FlR s R (i + 1) (i + 1)) := by
  have hn := h.now hi
  rcases hd with rfl | ⟨hs, hd⟩
  · rw [List.drop_eq_nil_of_le (by simp), fullF] at hn
    exact ⟨fun e => by rw [← hn, e], fun e => ⟨by omega, by omega, fun q => by omega, fun _ => by rw [← hn, e]⟩⟩
  · have h46 : s[i] = 46 := by apply UInt8.toNat_inj.1; show _ = 46; omega
    rw [drop_at s i hs, fullF, if_pos h46] at hn
    refine ⟨fun e => by rw [← hn, e]; rfl, fun e => ⟨by omega, by omega, fun q => ?_, fun q => by omega⟩⟩
    rw [e, Bool.true_and] at hn
    have : (s.extract (i + 1) (i + 1)).data.toList = [] := by rw [extract_mid]; simp
    rw [this]
    exact hn
theorem FlR.next {s : ByteArray} {R : Bool} {st i : Nat} (h : FlR s R st i) (hs : i < s.size) (hd : ((s[i].toNat : Nat) : Int) ≠ 46) : FlR s R st (i + 1) := by
  have hn := h.now (by omega)
  have h46 : s[i] ≠ 46 := fun e => hd (by rw [e]; rfl)
  rw [drop_at s i hs, fullF, if_neg h46] at hn
  refine ⟨by have := h.le; omega, by omega, fun q => ?_, fun q => by omega⟩
  have : (s.extract st (i + 1)).data.toList = (s.extract st i).data.toList ++ [s[i]] := by
    rw [extract_mid, extract_mid, show i + 1 - st = (i - st) + 1 by have := h.le; omega, List.take_succ_eq_append_getElem (by simp; have := h.le; omega)]
    congr 1
    simp only [List.getElem_drop]
    congr 1
    have e : st + (i - st) = i := by have := h.le; omega
    simp only [e]
    rfl
  rw [this]
  exact hn

set_option maxRecDepth 100000 in
set_option maxHeartbeats 1000000 in
theorem risFull_any (s : ByteArray) (w : World) (hs : s.size ≤ 1000000) : Calls Tryd.prog 25 #[.string s] w fun e w' => e = .returned (.bool (fullS s)) ∧ w = w' := by
  rw [fullS_eq]
  have hst : FlR s (fullF [] s.data.toList) 0 0 := ⟨by omega, by omega, fun _ => by rw [extract_mid]; simp, fun q => by omega⟩
  obtain ⟨R, hR⟩ : ∃ R, R = fullF [] s.data.toList := ⟨_, rfl⟩
  rw [← hR] at hst ⊢
  clear hR
  have HST := Lib.hid hst
  clear hst
  go_enter Tryd.func25, Tryd.ntmps25
  go_wp2_with fail
  go_loop [3, 4] (fun a j => ∃ (st i : Nat), a = .int .i64 st ∧ j = .int .i64 i ∧ FlR s R st i) (fun _ j => s.size + 1 - (intOf j).toNat)
  case atStart => exact ⟨0, 0, rfl, rfl, HST.out⟩
  case round =>
    obtain ⟨st, i, rfl, rfl, hrel⟩ := hrel
    have HR := Lib.hid hrel
    have hle := hrel.le
    have hi1 := hrel.hi
    clear HST
    by_cases hi : i ≤ s.size
    · have hi' : (i : Int) ≤ (s.size : Int) := by omega
      have hst0 : (st : Int) ≤ (i : Int) := by omega
      have hst1 : (0 : Int) ≤ (st : Int) := by omega
      have hi0 : (0 : Int) ≤ (i : Int) := by omega
      have hid : ∀ W, Calls Tryd.prog 23 #[.string (s.extract st i)] W fun e w' => e = .returned (.bool (identL (s.extract st i).data.toList)) ∧ W = w' := fun W => risIdent_any _ W (by simp [ByteArray.size_extract]; unfold maxLen; omega)
      obtain ⟨I, hI⟩ : ∃ I, identL (s.extract st i).data.toList = I := ⟨_, rfl⟩
      rw [hI] at hid
      have HID := Lib.hid hid
      have HI := Lib.hid hI
      clear hid hI
      by_cases he : i = s.size
      · have hp := hrel.part hi (.inl he)
        rw [HI.out] at hp
        have he' : ((i : Int) == (s.size : Int)) = true := by simp [he]
        have HP := Lib.hid hp
        clear hp hrel he
        cases I
        · go_wp2_with fail
          refine (HID.out _).mono ?_
          rintro e _ ⟨rfl, rfl⟩
          go_wp2_with fail
          go_ret
          exact ⟨ret_bool (by rw [HP.out.1 (by trivial)]; simp), rfl⟩
        · go_wp2_with fail
          refine (HID.out _).mono ?_
          rintro e _ ⟨rfl, rfl⟩
          go_wp2_with fail
          go_round
          case rel => exact ⟨i + 1, i + 1, by go_num, by go_num, HP.out.2 (by trivial)⟩
          case measure => simp [intOf]; omega
      · have hlt : i < s.size := by omega
        have hlt' : (i : Int) < (s.size : Int) := by omega
        have he' : ((i : Int) == (s.size : Int)) = false := by simp; omega
        have HE := Lib.hid he
        by_cases h46 : ((s[i].toNat : Nat) : Int) = 46
        · have hp := hrel.part hi (.inr ⟨hlt, h46⟩)
          rw [HI.out] at hp
          have HP := Lib.hid hp
          have h46' : (((s[i].toNat : Nat) : Int) == 46) = true := by simpa using h46
          clear hp hrel he h46
          cases I
          · go_wp2_with fail
            refine (HID.out _).mono ?_
            rintro e _ ⟨rfl, rfl⟩
            go_wp2_with fail
            go_ret
            exact ⟨ret_bool (by rw [HP.out.1 (by trivial)]; simp), rfl⟩
          · go_wp2_with fail
            refine (HID.out _).mono ?_
            rintro e _ ⟨rfl, rfl⟩
            go_wp2_with fail
            go_round
            case rel => exact ⟨i + 1, i + 1, by go_num, by go_num, HP.out.2 (by trivial)⟩
            case measure => simp [intOf]; omega
        · have h46' : (((s[i].toNat : Nat) : Int) == 46) = false := by simpa using h46
          have HN := Lib.hid (hrel.next hlt h46)
          clear hrel he h46
          go_wp2_with fail
          go_round
          case rel => exact ⟨st, i + 1, rfl, by go_num, HN.out⟩
          case measure => simp [intOf]; omega
    · have hi' : ¬ (i : Int) ≤ (s.size : Int) := by omega
      have HF := Lib.hid (hrel.fin (by omega))
      clear hrel
      go_wp2_with fail
      go_ret
      exact ⟨ret_bool (by rw [HF.out, Bool.and_true]; exact decide_eq_decide.2 (by omega)), rfl⟩
end Go.Proofs.YtjophmgpknpboaaDoor
