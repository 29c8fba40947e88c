/-
  Key, and the document's Key.
-/
import Derived.Test.YtjophmgpknpboaaDoorNames
namespace Go.Proofs.YtjophmgpknpboaaDoor
open Go.RowKit
set_option linter.unusedVariables false

theorem Tryd.info5 : (Tryd.prog.info? 5).map (fun i => (i.zero, i.size, i.bytes)) = some (some (.int .u8 0), 1, 1) := by kernel_rfl

/-- The key of bytes, behind an underscore or not. -/
def keyF : Bool → List UInt8 → List UInt8
  | _, [] => []
  | up, c :: r => if c.toNat = 95 then keyF true r else (if up && loZ c.toNat then UInt8.ofNat (c.toNat - 32) else c) :: keyF false r

def StrP (w : World) (l : List UInt8) (e : Ending) (w' : World) : Prop := e = .returned (.string ⟨l.toArray⟩) ∧ Below w.heap.size w w'

structure KeyR (w : World) (s : ByteArray) (K : List UInt8) (v : Value) (up : Bool) (k : Nat) (l : List UInt8) (wr : World) : Prop where
  own : Own wr w.heap.size v l
  fin : l ++ keyF up (s.data.toList.drop k) = K
  len : l.length ≤ k
  bel : Below w.heap.size w wr

theorem drop_at (s : ByteArray) (k : Nat) (h : k < s.size) : s.data.toList.drop k = s[k] :: s.data.toList.drop (k + 1) := by
  have hk : k < s.data.toList.length := by simpa using h
  rw [List.drop_eq_getElem_cons hk]; rfl

/-- A byte is joined. -/
theorem key_put {w wr w1 : World} {s : ByteArray} {K l : List UInt8} {v v1 : Value} {up : Bool} {k : Nat} {a : Int} {o : Obj} (h : KeyR w s K v up k l wr) (hk : k < s.size) (h95 : ¬ s[k].toNat = 95)
    (ha : a = if up && loZ s[k].toNat then (s[k].toNat : Int) - 32 else s[k].toNat) (hown : Own w1 w.heap.size v1 (l ++ [UInt8.ofNat a.toNat])) (hg : Grew (wr.alloc o) w1 v v1) : KeyR w s K v1 false (k + 1) (l ++ [UInt8.ofNat a.toNat]) w1 := by
  have hb := h.bel
  refine ⟨hown, ?_, by have := h.len; simp; omega, (hb.alloc hb.size _).trans (hg.below (by have := hb.size; simp; omega) (fun g e => (h.own.lt e).1))⟩
  rw [← h.fin, drop_at s k hk, keyF, if_neg h95, List.append_assoc]
  congr 1
  show [_] ++ _ = _ :: _
  rw [ha]
  by_cases q : (up && loZ s[k].toNat) = true
  · rw [if_pos q, if_pos q]
    have : ((s[k].toNat : Int) - 32).toNat = s[k].toNat - 32 := by omega
    rw [this]; rfl
  · rw [if_neg q, if_neg q, Int.toNat_natCast]; simp
/-- An underscore is left out. -/
theorem key_skip {w wr : World} {s : ByteArray} {K l : List UInt8} {v : Value} {up : Bool} {k : Nat} (h : KeyR w s K v up k l wr) (hk : k < s.size) (h95 : s[k].toNat = 95) : KeyR w s K v true (k + 1) l wr := by
  refine ⟨h.own, ?_, by have := h.len; omega, h.bel⟩
  rw [← h.fin, drop_at s k hk, keyF, if_pos h95]
theorem key_end {w wr : World} {s : ByteArray} {K l : List UInt8} {v : Value} {up : Bool} {k : Nat} (h : KeyR w s K v up k l wr) (hk : ¬ k < s.size) : l = K := by
  have := h.fin
  rw [List.drop_eq_nil_of_le (by simp; omega), keyF, List.append_nil] at this
  exact this

set_option maxRecDepth 100000 in
set_option maxHeartbeats 1000000 in
theorem key_any (s : ByteArray) (w : World) (hs : s.size ≤ 1000000) : Calls Tryd.prog 26 #[.string s] w (StrP w (keyF false s.data.toList)) := by
  obtain ⟨i0, hi0, hz0, hz1, hz2⟩ := info_parts Tryd.info5
  obtain ⟨K, hK⟩ : ∃ K, K = keyF false s.data.toList := ⟨_, rfl⟩
  rw [← hK]
  have HK := Lib.hid hK
  clear hK
  go_enter Tryd.func26, Tryd.ntmps26
  go_wp2_with (at_make; refine wpList_make_own _ rfl _ _ 22 rfl w.heap.size 5 i0 (.int .u8 0) 1 Tryd.underlying22 hi0 hz0 hz1 .i64 .i64 _ s.size rfl rfl (by omega) (by rw [hz2]; omega) (by unfold maxLen; omega) (Nat.le_refl _) ?_; intro w0 hown0 hgrow0)
  have hst : KeyR w s K (.slice (some ⟨w.heap.size, 0, none⟩) 0 s.size) false 0 [] w0 := ⟨hown0, by simpa using HK.out.symm, by simp, Below.grown (Below.refl _ _) hgrow0 (Nat.le_refl _) (fun _ h => by cases h)⟩
  clear hown0 hgrow0
  go_loopw [3, 4, 12] (fun v u j wr => ∃ (up : Bool) (k : Nat) (l : List UInt8), u = .bool up ∧ j = .int .i64 k ∧ k ≤ s.size ∧ KeyR w s K v up k l wr) (fun _ _ j _ => s.size - (intOf j).toNat)
  case atStart => exact ⟨false, 0, [], rfl, rfl, by omega, hst⟩
  case round =>
    obtain ⟨up, k, l, rfl, rfl, hk, hrel⟩ := hrel
    clear hst
    have HR := Lib.hid hrel
    have hown := hrel.own
    have hbs := hrel.bel.size
    have hlen := hrel.len
    clear hrel
    by_cases hlt : k < s.size
    · have hlt' : (k : Int) < (s.size : Int) := by omega
      have hcb := s[k].toNat_lt
      have hL := fun W => isLower_any (s[k].toNat : Nat) W
      obtain ⟨c, hc⟩ : ∃ c : Int, ((s[k].toNat : Nat) : Int) = c := ⟨_, rfl⟩
      obtain ⟨a, ha⟩ : ∃ a, loZ c = a := ⟨_, rfl⟩
      simp only [hc, ha] at hL
      have HLL := Lib.hid hL
      have HAA := Lib.hid ha
      have hc0 : 0 ≤ c := by omega
      have hc1 : c < 256 := by omega
      have h95' : s[k].toNat = 95 ↔ c = 95 := by omega
      have HI := Lib.hid h95'
      clear hL ha h95'
      by_cases h95 : c = 95
      · have e95 : (c == 95) = true := by simp [h95]
        have H95 := Lib.hid h95
        have ha0 : a = false := by rw [← HAA.out, h95]; decide
        subst ha0
        clear h95
        cases up
        · go_wp2_with fail
          go_roundw
          case rel => exact ⟨true, k + 1, l, rfl, by go_num, by omega, key_skip HR.out hlt (HI.out.2 H95.out)⟩
          case measure => simp [intOf]; omega
        · go_wp2_with fail
          refine (HLL.out _).mono ?_
          rintro e _ ⟨rfl, rfl⟩
          go_wp2_with fail
          go_roundw
          case rel => exact ⟨true, k + 1, l, rfl, by go_num, by omega, key_skip HR.out hlt (HI.out.2 H95.out)⟩
          case measure => simp [intOf]; omega
      · have e95 : (c == 95) = false := by simp [h95]
        have H95 := Lib.hid h95
        clear h95
        cases up
        · go_wp2_with (at_builtin; refine wpList_append_bs _ rfl _ _ 22 rfl i0 Tryd.underlying22 hi0 hz0 hz1 hz2 w.heap.size _ l rfl (hown.alloc _) _ _ _ _ _ _ rfl (Bs.single _ _ (by omega) (by omega)) (by omega) (by simp; omega) ?_; intro v1 w1 hown1 hgrow1)
          go_roundw
          case rel => exact ⟨false, k + 1, _, rfl, by go_num, by omega, key_put HR.out hlt (fun q => H95.out (HI.out.1 q)) (by simp; omega) hown1 hgrow1⟩
          case measure => simp [intOf]; omega
        · cases a
          · go_wp2_with (first | (go_at_call 47; refine (HLL.out _).mono ?_; rintro e _ ⟨rfl, rfl⟩) | (at_builtin; refine wpList_append_bs _ rfl _ _ 22 rfl i0 Tryd.underlying22 hi0 hz0 hz1 hz2 w.heap.size _ l rfl (hown.alloc _) _ _ _ _ _ _ rfl (Bs.single _ _ (by omega) (by omega)) (by omega) (by simp; omega) ?_; intro v1 w1 hown1 hgrow1))
            go_roundw
            case rel => exact ⟨false, k + 1, _, rfl, by go_num, by omega, key_put HR.out hlt (fun q => H95.out (HI.out.1 q)) (by rw [hc, HAA.out]; simp) hown1 hgrow1⟩
            case measure => simp [intOf]; omega
          · have hlo : 97 ≤ c ∧ c ≤ 122 := by have := HAA.out; simpa [loZ] using this
            have hlo1 := hlo.1
            have hlo2 := hlo.2
            have e65 : (c - 32 == 95) = false := by simp; omega
            clear hlo
            go_wp2_with (first | (go_at_call 47; refine (HLL.out _).mono ?_; rintro e _ ⟨rfl, rfl⟩) | (at_builtin; refine wpList_append_bs _ rfl _ _ 22 rfl i0 Tryd.underlying22 hi0 hz0 hz1 hz2 w.heap.size _ l rfl (hown.alloc _) _ _ _ _ _ _ rfl (Bs.single _ _ (by omega) (by omega)) (by omega) (by simp; omega) ?_; intro v1 w1 hown1 hgrow1))
            go_roundw
            case rel => exact ⟨false, k + 1, _, rfl, by go_num, by omega, key_put HR.out hlt (fun q => H95.out (HI.out.1 q)) (by rw [hc, HAA.out]; simp) hown1 hgrow1⟩
            case measure => simp [intOf]; omega
    · obtain ⟨A, kk, cc, rfl⟩ := hown.val
      have hcv := hown.toBs.convert (P := Tryd.prog) 22 5 9 Tryd.underlying22 Tryd.underlying5 Tryd.underlying9
      have he := key_end HR.out hlt
      rw [he] at hcv
      clear he
      go_wp2
      go_ret
      exact ⟨rfl, HR.out.bel⟩
end Go.Proofs.YtjophmgpknpboaaDoor
