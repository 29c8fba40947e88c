/-
  The document's first rune, walked.
-/
import Derived.Test.YtjophmgpknpboaaDoorFirstMath
import Derived.Deep.QuietTactic
import Derived.BigQuiet
import Derived.Outline
import Derived.Deep.DeepCutAuto
namespace Go.Proofs.YtjophmgpknpboaaDoor
open Go.RowKit
set_option linter.unusedVariables false
set_option linter.unusedSimpArgs false

def bdN (i : Nat) : Int := match i with | 0 => 4 | 1 => 256 | 2 => 16384 | 3 => 1048576 | _ => 67108864
theorem bdN_step (i : Nat) (h1 : 1 ≤ i) (h : i < 4) (z r : Int) (hz : z < bdN i) (hr : r < 64) : 64 * z + r < bdN (i + 1) := by
  have : i = 1 ∨ i = 2 ∨ i = 3 := by omega
  rcases this with rfl | rfl | rfl <;> simp only [bdN] at hz ⊢ <;> omega
theorem accN_snoc : ∀ (l : List UInt8) (n : Int) (x : UInt8), accN n (l ++ [x]) = 64 * accN n l + (x.toNat % 64 : Nat)
  | [], n, x => rfl
  | y :: l, n, x => by rw [List.cons_append, accN, accN_snoc l, accN]

structure FsR (l : List UInt8) (M i : Nat) (N0 z : Int) : Prop where
  lo : 1 ≤ i
  hi : i ≤ M
  hn : i ≤ l.length
  val : z = accN N0 ((l.drop 1).take (i - 1))
  z0 : 0 ≤ z
  zb : z < bdN i
theorem FsR.next {l : List UInt8} {M i : Nat} {N0 z : Int} (h : FsR l M i N0 z) (hM : M ≤ 4) (h1 : i < M) (h2 : i < l.length) : FsR l M (i + 1) N0 (64 * z + (l[i].toNat : Int) % 64) := by
  have hlo := h.lo
  have e : ((l.drop 1).take (i + 1 - 1)) = (l.drop 1).take (i - 1) ++ [l[i]] := by
    have h3 : i - 1 < (l.drop 1).length := by simp; omega
    rw [show i + 1 - 1 = (i - 1) + 1 by omega, List.take_succ_eq_append_getElem h3]
    congr 2
    simp only [List.getElem_drop]
    congr 1
    omega
  refine ⟨by omega, by omega, by omega, ?_, by have := h.z0; omega, bdN_step i hlo (by omega) z _ h.zb (by omega)⟩
  rw [e, accN_snoc, ← h.val]
  omega
theorem FsR.fin {l : List UInt8} {M i : Nat} {N0 z : Int} (h : FsR l M i N0 z) (hM : hdN (l.headD 0).toNat = (M, N0)) (hd : i = M ∨ i = l.length) : z = fsN l := by
  rw [h.val]
  unfold fsN
  rw [hM]
  simp only
  congr 1
  have := h.hi
  have := h.hn
  rcases hd with rfl | rfl
  · rfl
  · rw [List.take_of_length_le (by simp), List.take_of_length_le (by simp; omega)]

set_option maxRecDepth 100000 in
set_option maxHeartbeats 1000000 in
theorem first_any {w : World} {lo hi n c : Nat} {A : Option Addr} {l : List UInt8} (hB : Bs w lo hi A n c l) (hp : 0 < n) (hhi : hi ≤ w.heap.size) (hn : n ≤ 1000000) :
    Calls Tryd.prog 35 #[.slice A n c] w fun e w' => e = .returned (.tuple #[.int .i64 (fsR l).1, .int .i64 ((fsR l).2 : Nat)]) ∧ Below w.heap.size w w' := by
  have hl := hB.len
  have hcap := hB.le
  obtain ⟨b, o, rfl, _, hb1, hcells⟩ := hB.at_ hp
  have hc0 : w.cell? ⟨b, o, none⟩ = some (.int .u8 (l[0].toNat : Int)) := hcells 0 (by omega)
  have hh : l.headD 0 = l[0] := by
    rw [List.headD_eq_head?_getD, List.head?_eq_getElem?, List.getElem?_eq_getElem (by omega)]
    rfl
  obtain ⟨⟨M, N0⟩, hM⟩ : ∃ x, hdN (l.headD 0).toNat = x := ⟨_, rfl⟩
  have hM2 : hdN l[0].toNat = (M, N0) := by rw [← hh]; exact hM
  have hx := l[0].toNat_lt
  have hcl : (240 ≤ l[0].toNat ∧ M = 4 ∧ N0 = (l[0].toNat : Int) % 8) ∨ (224 ≤ l[0].toNat ∧ l[0].toNat < 240 ∧ M = 3 ∧ N0 = (l[0].toNat : Int) % 16) ∨ (192 ≤ l[0].toNat ∧ l[0].toNat < 224 ∧ M = 2 ∧ N0 = (l[0].toNat : Int) % 32) ∨ (l[0].toNat < 192 ∧ M = 1 ∧ N0 = ((l[0].toNat : Nat) : Int)) := by
    unfold hdN at hM2
    by_cases q1 : 240 ≤ l[0].toNat
    · rw [if_pos q1] at hM2; injection hM2 with e1 e2; exact .inl ⟨q1, e1.symm, by omega⟩
    · rw [if_neg q1] at hM2
      by_cases q2 : 224 ≤ l[0].toNat
      · rw [if_pos q2] at hM2; injection hM2 with e1 e2; exact .inr (.inl ⟨q2, by omega, e1.symm, by omega⟩)
      · rw [if_neg q2] at hM2
        by_cases q3 : 192 ≤ l[0].toNat
        · rw [if_pos q3] at hM2; injection hM2 with e1 e2; exact .inr (.inr (.inl ⟨q3, by omega, e1.symm, by omega⟩))
        · rw [if_neg q3] at hM2; injection hM2 with e1 e2; exact .inr (.inr (.inr ⟨by omega, e1.symm, e2.symm⟩))
  have hst : FsR l M 1 N0 N0 := by
    refine ⟨by omega, by omega, by omega, by simp [accN], by omega, ?_⟩
    simp only [bdN]; omega
  have hM4 : M ≤ 4 := by omega
  have hM1 : 1 ≤ M := by omega
  have HCE := Lib.hid hcells
  have HB := Lib.hid hB
  have HMM := Lib.hid hM
  have HL := Lib.hid hl
  have HST := Lib.hid hst
  have hp' : (0 : Int) < (n : Int) := by omega
  generalize hy : l[0] = y at *
  clear hcells hB hM hM2 hh hst hl hy
  obtain ⟨F, hF⟩ : ∃ F, fsR l = F := ⟨_, rfl⟩
  rw [hF]
  have HF := Lib.hid hF
  have HCL := Lib.hid hcl
  clear hF hcl
  go_enter Tryd.func35, Tryd.ntmps35
  go_wp2_with fail
  go_quiet (fail)
  go_upto_block 0 with fail
  go_cut [4, 5] (fun s4 s5 wx => s4 = .int .i64 (M : Int) ∧ s5 = .int .i64 N0 ∧ Below w.heap.size w wx)
  case first =>
    rcases HCL.out with ⟨c1, rfl, rfl⟩ | ⟨c1, c2, rfl, rfl⟩ | ⟨c1, c2, rfl, rfl⟩ | ⟨c1, rfl, rfl⟩
    · have g0 : (240 : Int) ≤ (y.toNat : Int) := by omega
      have e1 : (y.toNat : Int).tmod 8 = (y.toNat : Int) % 8 := Int.tmod_eq_emod_of_nonneg (by omega)
      have e2 : IntKind.u8.wrap ((y.toNat : Int) % 8) = (y.toNat : Int) % 8 := IntWalk.u8_in _ (by omega)
      go_wp2_with fail
      go_quiet (fail)
      go_wp2_with fail
      go_meet
      exact ⟨rfl, rfl, Below.drewN_ (Below.drewN_ (Below.refl _ _) _) _⟩
    · have g0 : ¬ (240 : Int) ≤ (y.toNat : Int) := by omega
      have g1 : (224 : Int) ≤ (y.toNat : Int) := by omega
      have e1 : (y.toNat : Int).tmod 16 = (y.toNat : Int) % 16 := Int.tmod_eq_emod_of_nonneg (by omega)
      have e2 : IntKind.u8.wrap ((y.toNat : Int) % 16) = (y.toNat : Int) % 16 := IntWalk.u8_in _ (by omega)
      go_wp2_with fail
      go_quiet (fail)
      go_wp2_with fail
      go_meet
      exact ⟨rfl, rfl, Below.drewN_ (Below.drewN_ (Below.refl _ _) _) _⟩
    · have g0 : ¬ (240 : Int) ≤ (y.toNat : Int) := by omega
      have g1 : ¬ (224 : Int) ≤ (y.toNat : Int) := by omega
      have g2 : (192 : Int) ≤ (y.toNat : Int) := by omega
      have e1 : (y.toNat : Int).tmod 32 = (y.toNat : Int) % 32 := Int.tmod_eq_emod_of_nonneg (by omega)
      have e2 : IntKind.u8.wrap ((y.toNat : Int) % 32) = (y.toNat : Int) % 32 := IntWalk.u8_in _ (by omega)
      go_wp2_with fail
      go_quiet (fail)
      go_wp2_with fail
      go_meet
      exact ⟨rfl, rfl, Below.drewN_ (Below.drewN_ (Below.refl _ _) _) _⟩
    · have g0 : ¬ (240 : Int) ≤ (y.toNat : Int) := by omega
      have g1 : ¬ (224 : Int) ≤ (y.toNat : Int) := by omega
      have g2 : ¬ (192 : Int) ≤ (y.toNat : Int) := by omega
      go_wp2_with fail
      go_meet
      exact ⟨rfl, rfl, Below.drewN_ (Below.refl _ _) _⟩
  case rest =>
    obtain ⟨rfl, rfl, hbw⟩ := hcut
    obtain ⟨w1, hw1⟩ : ∃ W, W = wc := ⟨_, rfl⟩
    subst hw1
    have HBW := Lib.hid hbw
    clear hbw
    go_upto_block 1 with fail
    go_cut [5] (fun v wx => v = .int .i64 (fsN l) ∧ w1 = wx)
    case first =>
      go_wp2_with fail
      go_loop [5, 6] (fun v j => ∃ (i : Nat) (z : Int), j = .int .i64 i ∧ v = .int .i64 z ∧ FsR l M i N0 z) (fun _ j => 4 - (intOf j).toNat)
      case atStart => exact ⟨1, _, rfl, rfl, HST.out⟩
      case round =>
        obtain ⟨i, z, rfl, rfl, hrel⟩ := hrel
        have HR := Lib.hid hrel
        have i1 := hrel.lo
        have i2 := hrel.hi
        have i3 := hrel.hn
        have z0 := hrel.z0
        have zb := hrel.zb
        have hlen := HL.out
        have zb' : z < 67108865 := by
          have : i = 0 ∨ i = 1 ∨ i = 2 ∨ i = 3 ∨ i = 4 := by omega
          rcases this with rfl | rfl | rfl | rfl | rfl <;> simp only [bdN] at zb <;> omega
        clear hrel zb
        by_cases hlt : i < M ∧ i < n
        · obtain ⟨k1, k2⟩ := hlt
          have k1' : (i : Int) < (M : Int) := by omega
          have k2' : (i : Int) < (n : Int) := by omega
          have k3 : (0 : Int) ≤ (i : Int) := by omega
          have hil : i < l.length := by omega
          have hci : w1.cell? ⟨b, o + i, none⟩ = some (.int .u8 (l[i].toNat : Int)) := (HBW.out.cell (p := ⟨b, o + i, none⟩) (by show b < _; omega)).trans (HCE.out i hil)
          have hxi := l[i].toNat_lt
          have HN := Lib.hid (HR.out.next (by omega) k1 hil)
          clear hlen
          go_wp2_with fail
          go_round
          case rel => first | exact ⟨i + 1, _, by go_num, rfl, HN.out⟩ | exact ⟨i + 1, by go_num, HN.out⟩
          case measure => simp [intOf]; omega
        · have hz := HR.out.fin HMM.out (by omega)
          have HZ := Lib.hid hz
          have hout : ¬ (i : Int) < (M : Int) ∨ ((i : Int) < (M : Int) ∧ ¬ (i : Int) < (n : Int)) := by omega
          clear hz hlt
          rcases hout with q | ⟨q, q'⟩
          all_goals
            go_wp2_with fail
            go_meet
            exact ⟨by rw [HZ.out], rfl⟩
    case rest =>
      obtain ⟨rfl, rfl⟩ := hcut
      have hfs : F = if rnB (fsN l) = true ∧ M ≤ l.length ∧ Lib.encodeRune (fsN l) = l.take M then (fsN l, M) else (0, 0) := by
        rw [← HF.out]
        unfold fsR
        simp only [HMM.out]
      generalize fsN l = z at *
      have hrr := fun W => rrune_any (w := W) z (Bs.none_ W 0 0 none (c := 0) (by decide)) (by omega)
      have hru : ruR [] z = if rnB z then (0, Lib.encodeRune z) else (20, []) := by unfold ruR; simp
      have hlen := HL.out
      cases hrn : rnB z
      · rw [hrn] at hfs hru
        rw [if_neg (by simp)] at hru
        rw [hru] at hrr
        rw [if_neg (by simp)] at hfs
        have HFS := Lib.hid hfs
        have HRR := Lib.hid hrr
        clear hfs hru hrr hrn hlen
        go_wp2_with fail
        refine (HRR.out _).mono ?_
        rintro e w2 ⟨v2, rfl, ho2, hb2⟩
        have HB2 := Lib.hid (HBW.out.trans (hb2.mono HBW.out.size))
        clear ho2 hb2
        go_wp2_with fail
        go_ret2
        rw [HFS.out]
        exact ⟨rfl, HB2.out⟩
      · rw [hrn] at hfs hru
        rw [if_pos rfl] at hru
        rw [hru] at hrr
        have HRR := Lib.hid hrr
        by_cases hMn : M ≤ n
        · have hMn' : ¬ (n : Int) < (M : Int) := by omega
          have hMc : (M : Int) ≤ (c : Int) := by omega
          have hM0 : (0 : Int) ≤ (M : Int) := by omega
          obtain ⟨T, hT⟩ : ∃ T, (Lib.encodeRune z == l.take M) = T := ⟨_, rfl⟩
          have hF0 : F = if T then (z, M) else (0, 0) := by
            rw [hfs, ← hT]
            by_cases q : Lib.encodeRune z = l.take M
            · rw [if_pos ⟨rfl, by omega, q⟩, if_pos (by simpa using q)]
            · rw [if_neg (fun h => q h.2.2), if_neg (by simpa using q)]
          have HF0 := Lib.hid hF0
          have HT := Lib.hid hT
          have hpre := fun W (h : Below w.heap.size w W) => (HB.out.below h hhi).pre (k := M) hMn
          have HPRE := Lib.hid hpre
          clear hfs hru hrr hrn hlen hMn hF0 hT hpre
          go_wp2_with fail
          refine (HRR.out _).mono ?_
          rintro e w2 ⟨v2, rfl, ho2, hb2⟩
          obtain ⟨A2, c2, rfl, hB2⟩ := ho2.bs
          have HB2 := Lib.hid (HBW.out.trans (hb2.mono HBW.out.size))
          have heq := fun W (hW : W = w2) => eqb_any (w := W) (show Bs W _ _ _ _ _ _ from hW ▸ hB2) (show Bs W _ _ _ _ _ _ from hW ▸ HPRE.out _ HB2.out)
          simp only [HT.out] at heq
          have HEQ := Lib.hid heq
          clear ho2 hb2 hB2 heq
          go_wp2_with fail
          refine (HEQ.out _ rfl).mono ?_
          rintro e _ ⟨rfl, rfl⟩
          cases T
          · go_wp2_with fail
            go_ret2
            rw [HF0.out]
            exact ⟨rfl, HB2.out⟩
          · go_wp2_with fail
            go_ret2
            rw [HF0.out]
            exact ⟨rfl, HB2.out⟩
        · have hMn' : (n : Int) < (M : Int) := by omega
          have hF0 : F = (0, 0) := by
            rw [hfs, if_neg]
            rintro ⟨_, h2, _⟩
            omega
          have HF0 := Lib.hid hF0
          clear hfs hru hrr hrn hlen hMn hF0
          go_wp2_with fail
          refine (HRR.out _).mono ?_
          rintro e w2 ⟨v2, rfl, ho2, hb2⟩
          obtain ⟨A2, c2, rfl, hB2⟩ := ho2.bs
          have HB2 := Lib.hid (HBW.out.trans (hb2.mono HBW.out.size))
          clear ho2 hb2 hB2
          go_wp2_with fail
          go_ret2
          rw [HF0.out]
          exact ⟨rfl, HB2.out⟩
end Go.Proofs.YtjophmgpknpboaaDoor
