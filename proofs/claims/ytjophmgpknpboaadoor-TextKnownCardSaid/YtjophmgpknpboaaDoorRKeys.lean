/-
  The document's Key.
-/
import Derived.Test.YtjophmgpknpboaaDoorKeys
namespace Go.Proofs.YtjophmgpknpboaaDoor
open Go.RowKit
set_option linter.unusedVariables false

set_option maxRecDepth 100000 in
set_option maxHeartbeats 1000000 in
theorem rkey_any (s : ByteArray) (w : World) (hs : s.size ≤ 1000000) : Calls Tryd.prog 27 #[.string s] w (StrP w (keyF false s.data.toList)) := by
  obtain ⟨i0, hi0, hz0, hz1, hz2⟩ := info_parts Tryd.info5
  obtain ⟨K, hK⟩ : ∃ K, K = keyF false s.data.toList := ⟨_, rfl⟩
  rw [← hK]
  have hst : KeyR w s K (.slice none 0 0) false 0 [] w := ⟨Own.nil _ _, by simpa using hK.symm, by simp, Below.refl _ _⟩
  clear hK
  go_enter Tryd.func27, Tryd.ntmps27
  go_wp2_with fail
  go_loopw [3, 4, 5] (fun v u j wr => ∃ (up : Bool) (k : Nat) (l : List UInt8), u = .bool up ∧ j = .int .i64 k ∧ k ≤ s.size ∧ KeyR w s K v up k l wr) (fun _ _ j _ => s.size - (intOf j).toNat)
  case atStart => exact ⟨false, 0, [], rfl, rfl, by omega, hst⟩
  case round =>
    obtain ⟨up, k, l, rfl, rfl, hk, hrel⟩ := hrel
    clear hst
    have HR := Lib.hid hrel
    have hown := hrel.own
    have hbs := hrel.bel.size
    have hlen := hrel.len
    clear hrel
    by_cases hlt : k < s.size
    · have hlt' : (k : Int) < (s.size : Int) := by omega
      have hcb := s[k].toNat_lt
      have hL := fun W => small_any (s[k].toNat : Nat) W
      obtain ⟨c, hc⟩ : ∃ c : Int, ((s[k].toNat : Nat) : Int) = c := ⟨_, rfl⟩
      obtain ⟨a, ha⟩ : ∃ a, loZ c = a := ⟨_, rfl⟩
      simp only [hc, ha] at hL
      have HLL := Lib.hid hL
      have HAA := Lib.hid ha
      have hc0 : 0 ≤ c := by omega
      have hc1 : c < 256 := by omega
      have h95' : s[k].toNat = 95 ↔ c = 95 := by omega
      have HI := Lib.hid h95'
      clear hL ha h95'
      by_cases h95 : c = 95
      · have e95 : (c == 95) = true := by simp [h95]
        have H95 := Lib.hid h95
        clear h95
        go_wp2_with fail
        go_roundw
        case rel => exact ⟨true, k + 1, l, rfl, by go_num, by omega, key_skip HR.out hlt (HI.out.2 H95.out)⟩
        case measure => simp [intOf]; omega
      · have e95 : (c == 95) = false := by simp [h95]
        have H95 := Lib.hid h95
        clear h95
        cases up
        · go_wp2_with (at_builtin; refine wpList_append_bs _ rfl _ _ 22 rfl i0 Tryd.underlying22 hi0 hz0 hz1 hz2 w.heap.size _ l rfl (hown.alloc _) _ _ _ _ _ _ rfl (Bs.single _ _ (by omega) (by omega)) (by omega) (by simp; omega) ?_; intro v1 w1 hown1 hgrow1)
          go_roundw
          case rel => exact ⟨false, k + 1, _, rfl, by go_num, by omega, key_put HR.out hlt (fun q => H95.out (HI.out.1 q)) (by simp; omega) hown1 hgrow1⟩
          case measure => simp [intOf]; omega
        · cases a
          · go_wp2_with (first | (go_at_call 43; refine (HLL.out _).mono ?_; rintro e _ ⟨rfl, rfl⟩) | (at_builtin; refine wpList_append_bs _ rfl _ _ 22 rfl i0 Tryd.underlying22 hi0 hz0 hz1 hz2 w.heap.size _ l rfl (hown.alloc _) _ _ _ _ _ _ rfl (Bs.single _ _ (by omega) (by omega)) (by omega) (by simp; omega) ?_; intro v1 w1 hown1 hgrow1))
            go_roundw
            case rel => exact ⟨false, k + 1, _, rfl, by go_num, by omega, key_put HR.out hlt (fun q => H95.out (HI.out.1 q)) (by rw [hc, HAA.out]; simp) hown1 hgrow1⟩
            case measure => simp [intOf]; omega
          · have hlo : 97 ≤ c ∧ c ≤ 122 := by have := HAA.out; simpa [loZ] using this
            have hlo1 := hlo.1
            have hlo2 := hlo.2
            clear hlo
            go_wp2_with (first | (go_at_call 43; refine (HLL.out _).mono ?_; rintro e _ ⟨rfl, rfl⟩) | (at_builtin; refine wpList_append_bs _ rfl _ _ 22 rfl i0 Tryd.underlying22 hi0 hz0 hz1 hz2 w.heap.size _ l rfl (hown.alloc _) _ _ _ _ _ _ rfl (Bs.single _ _ (by omega) (by omega)) (by omega) (by simp; omega) ?_; intro v1 w1 hown1 hgrow1))
            go_roundw
            case rel => exact ⟨false, k + 1, _, rfl, by go_num, by omega, key_put HR.out hlt (fun q => H95.out (HI.out.1 q)) (by rw [hc, HAA.out]; simp; omega) hown1 hgrow1⟩
            case measure => simp [intOf]; omega
    · obtain ⟨A, kk, cc, rfl⟩ := hown.val
      have hcv := hown.toBs.convert (P := Tryd.prog) 22 5 9 Tryd.underlying22 Tryd.underlying5 Tryd.underlying9
      have he := key_end HR.out hlt
      rw [he] at hcv
      clear he
      go_wp2
      go_ret
      exact ⟨rfl, HR.out.bel⟩
end Go.Proofs.YtjophmgpknpboaaDoor
