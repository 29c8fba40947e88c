/-
  tree: elements in braces.
-/
import Derived.Test.YthmdaejlopjjoaaGreatDoorPaB
namespace Go.Proofs.YthmdaejlopjjoaaGreatDoor
open Go.RowKit
set_option linter.unusedVariables false
set_option linter.unusedSimpArgs false

section
variable {w : World} {b g : Nat} {cur : Array Value} {l : List Wd}
set_option maxRecDepth 100000 in
set_option maxHeartbeats 1000000 in
/-- Elements in braces: step reads one of them, of what Inv says of the world. -/
theorem block_any {σ : Type} (step : σ → List Wd → Pz σ) (Inv : World → σ → List Wd → Prop) (Fr : World → World → Prop) (hF1 : ∀ W W', Kb b W W' → Fr W W') (hF2 : ∀ U V W, Fr U V → Fr V W → Fr U W) (mb : Nat) (ov : Value)
    (hps : ∀ W s l, Inv W s l → Ps W b g cur l) (hnext : ∀ W W' s l l', Inv W s l → Ps W' b g cur l' → Kb b W W' → Inv W' s l')
    (hE : ∀ W s l, Inv W s l → ¬ sayW l = kShut → Calls Tryz.prog 102 #[.pointer (some ⟨b, 0, none⟩), .map (some mb), ov] W (PzQ (step s l) (Fr W) fun s' l' v w' => v = .tuple #[] ∧ Inv w' s' l' ∧ Fr W w' ∧ l'.length < l.length))
    (s : σ) (h : Inv w s l) : Calls Tryz.prog 200 #[.pointer (some ⟨b, 0, none⟩), .map (some mb), ov] w (PzQ (blkP step s l) (Fr w) fun s' l' v w' => v = .tuple #[] ∧ Inv w' s' l' ∧ Fr w w') := by
  obtain ⟨R, hR⟩ : ∃ R, R = blkP step s l := ⟨_, rfl⟩
  rw [← hR]
  unfold blkP at hR
  have HR := Lib.hid hR
  have H := Lib.hid h
  have HE := Lib.hid hE
  have HF1 := Lib.hid hF1
  have HF2 := Lib.hid hF2
  have HP := Lib.hid hps
  have HN := Lib.hid hnext
  have HX := Lib.hid (exp_at [kOpen] #[.string kOpen] 1 rfl rfl (by decide) (by decide) (hps _ _ _ h))
  clear hR h hE hps hnext hF1 hF2
  go_enter Tryz.func200, Tryz.ntmps200
  go_wp2_with fail
  refine HX.out.mono ?_
  intro e w1 hq
  cases hr : expP [kOpen] l with
  | no p c =>
    rw [hr] at hq
    obtain ⟨rfl, hk⟩ := hq
    have HK := Lib.hid hk
    have HR2 := Lib.hid (show R = .no p c by rw [HR.out, hr]; rfl)
    clear hk hr HR HX
    unfold Stp stopV
    go_wp2_with fail
    rw [HR2.out]
    exact ⟨rfl, rfl, HF1.out _ _ HK.out⟩
  | ok u l1 =>
    rw [hr] at hq
    obtain ⟨v, rfl, rfl, hp, hk⟩ := hq
    have hR2 := HR.out
    rw [hr] at hR2
    simp only [Pz.and] at hR2
    have HR2 := Lib.hid hR2
    have HI := Lib.hid (HN.out _ _ _ _ _ H.out hp hk)
    have HK := Lib.hid (HF1.out _ _ hk)
    clear hk hr HR HX hp hR2 H
    go_wp2_with fail
    go_loopg [] (l1.length + 1) (fun gg wr => ∃ (n : Nat) (s' : σ) (l' : List Wd), gg = l'.length + 1 ∧ l'.length < n ∧ R = blkF step n s' l' ∧ Inv wr s' l' ∧ Fr w wr)
    case atStart => exact ⟨_, s, l1, rfl, Nat.lt_succ_self _, HR2.out, HI.out, HK.out⟩
    case round =>
      obtain ⟨n, s', l', rfl, hn, hfin, hinv, hkr⟩ := hrel
      obtain ⟨n, rfl⟩ : ∃ k, n = k + 1 := ⟨n - 1, by omega⟩
      rw [blkF] at hfin
      have HFIN := Lib.hid hfin
      have HI2 := Lib.hid hinv
      have HKR := Lib.hid hkr
      have HT := Lib.hid (takes_any (HP.out _ _ _ hinv) kShut (by decide))
      clear hfin hinv hkr HI HK HR2
      go_wp2_with fail
      refine HT.out.mono ?_
      rintro e w2 ⟨h1, hk2⟩
      have HK2 := Lib.hid (HF2.out _ _ _ HKR.out (HF1.out _ _ hk2))
      rcases h1 with ⟨hq, rfl, hp2, hg2⟩ | ⟨hq, rfl, hp2⟩
      · have HR3 := Lib.hid (show R = .ok s' l'.tail by rw [HFIN.out, if_pos hq])
        have HI3 := Lib.hid (HN.out _ _ _ _ _ HI2.out hp2 hk2)
        clear HFIN hq hp2 hg2 hk2 HT HI2
        go_wp2_with fail
        rw [HR3.out]
        go_end0
        exact ⟨_, rfl, rfl, HI3.out, HK2.out⟩
      · have HI3 := HN.out _ _ _ _ _ HI2.out hp2 hk2
        have HC := Lib.hid (HE.out _ _ _ HI3 hq)
        have hR3 := HFIN.out
        rw [if_neg hq] at hR3
        have HR3 := Lib.hid hR3
        clear HFIN hq hp2 hk2 HT HI2 HI3 hR3
        go_wp2_with fail
        refine HC.out.mono ?_
        intro e w3 hq
        cases hr : step s' l' with
        | no p c =>
          rw [hr] at hq
          obtain ⟨rfl, hk⟩ := hq
          have HK3 := Lib.hid (HF2.out _ _ _ HK2.out hk)
          have HR4 := Lib.hid (show R = .no p c by rw [HR3.out, hr]; rfl)
          clear hk hr HR3 HC
          unfold Stp stopV
          go_wp2_with fail
          rw [HR4.out]
          exact ⟨rfl, rfl, HK3.out⟩
        | ok s2 l2 =>
          rw [hr] at hq
          obtain ⟨v, rfl, rfl, hinv, hk, hlt⟩ := hq
          have HK3 := Lib.hid (HF2.out _ _ _ HK2.out hk)
          have HI4 := Lib.hid hinv
          have HR4 := Lib.hid (show R = blkF step n s2 l2 by rw [HR3.out, hr]; rfl)
          clear hk hr HR3 HC hinv
          go_wp2_with fail
          go_roundg (l2.length + 1)
          case measure => omega
          case rel => exact ⟨n, s2, l2, rfl, by omega, HR4.out, HI4.out, HK3.out⟩
end
end Go.Proofs.YthmdaejlopjjoaaGreatDoor
