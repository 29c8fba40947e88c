/-
  tree: what an enum reserves.
-/
import Derived.Test.YthmdaejlopjjoaaGreatDoorPaB
namespace Go.Proofs.YthmdaejlopjjoaaGreatDoor
open Go.RowKit
set_option linter.unusedVariables false
set_option linter.unusedSimpArgs false

section
variable {w : World} {b g : Nat} {cur : Array Value} {l : List Wd}
set_option maxRecDepth 100000 in
set_option maxHeartbeats 1000000 in
theorem enReserved_any (hX : Ext) {be B : Nat} {x : En} {v1 v2 v3 : Value} {C : List Nat} (h : Es w b g cur be B x v1 v2 v3 C l) (hk : (hdW l).k ≠ 0) :
    Calls Tryz.prog 203 #[.pointer (some ⟨be, 0, none⟩)] w (PzQ ((resP 2147483647 true x.rngs x.nams l).and fun r l => .ok { x with rngs := r.1, nams := r.2 } l) (Kd b be B w) (EsK w b g cur be B)) := by
  obtain ⟨R, hR⟩ : ∃ R, R = (resP 2147483647 true x.rngs x.nams l).and fun r l => .ok { x with rngs := r.1, nams := r.2 } l := ⟨_, rfl⟩
  rw [← hR]
  have HR := Lib.hid hR
  have H := Lib.hid h
  obtain ⟨A2, c2, hv2, -, -⟩ := h.rows.val (j := 1) rfl
  obtain ⟨A3, c3, hv3, -, -⟩ := h.rows.val (j := 2) rfl
  simp only at hv2 hv3
  subst hv2 hv3
  obtain ⟨d0, -, d4, d5, -, y4, y5, hlt⟩ := h.cells
  clear h hR
  go_enter Tryz.func203, Tryz.ntmps203
  go_wp2_with fail
  have HC := Lib.hid (show Calls Tryz.prog 232 #[.pointer (some ⟨b, 0, none⟩), .slice A2 x.rngs.length c2, .slice A3 x.nams.length c3, .agg #[.int .i64 2147483647, .bool true]] w.drew (fun e w' =>
      (∃ (r : List Sp × List Tx) (l' : List Wd) (A5 A6 : Option Addr) (c5 c6 : Nat), resP 2147483647 true x.rngs x.nams l = .ok r l' ∧ e = .returned (.tuple #[.slice A5 r.1.length c5, .slice A6 r.2.length c6]) ∧ Rows_ w' B [rwVl x.vals v1, rwSp r.1 (.slice A5 r.1.length c5), rwTx r.2 (.slice A6 r.2.length c6)] C ∧ Ps w' b g cur l' ∧ Kc b B w w') ∨
      (∃ p c, resP 2147483647 true x.rngs x.nams l = .no p c ∧ e = Stp p c ∧ Kc b B w w')) from
    (reserve_any hX H.out.drew.ps hk 2147483647 true B 1 2 (by decide) _ C x.rngs x.nams _ _ H.out.drew.rows rfl rfl H.out.sz (by have := H.out.lb; have := H.out.lB; omega) (by have := H.out.lg; have := H.out.lB; omega)).mono fun e w' h' => by
      cases hr : resP 2147483647 true x.rngs x.nams l with
      | no p c =>
        rw [hr] at h'
        exact .inr ⟨p, c, rfl, h'.1, (Kp.refl _ w).drew.trans h'.2⟩
      | ok r l' =>
        rw [hr] at h'
        obtain ⟨v, rfl, u2, u3, rfl, h1, h2, h3⟩ := h'
        obtain ⟨A5, c5, e5, -, -⟩ := h1.val (j := 1) rfl
        obtain ⟨A6, c6, e6, -, -⟩ := h1.val (j := 2) rfl
        simp only at e5 e6
        subst e5 e6
        exact .inl ⟨r, l', A5, A6, c5, c6, rfl, rfl, h1, h2, (Kp.refl _ w).drew.trans h3⟩)
  have HPO := Lib.hid fun (w4 : World) (p c : Nat) (hr : resP 2147483647 true x.rngs x.nams l = .no p c) (hk : Kc b B w w4) => (show PzQ R (Kd b be B w) (EsK w b g cur be B) (Stp p c) w4 by
    rw [HR.out, hr]; exact ⟨rfl, Kc.kd hk⟩)
  go_wp2_with fail
  go_region_law ((go_simp; go_at_call 232; refine HC.out.mono ?_; rintro e w4 (⟨r, l', A5, A6, c5, c6, hn, rfl, hrw, hps, hkc⟩ | ⟨p, c, hn, rfl, hkc⟩); rotate_left 1; exact ⟨rfl, HPO.out w4 p c hn hkc⟩; have HRW := Lib.hid hrw; have HPS := Lib.hid hps; have HKC := Lib.hid hkc; have HN := Lib.hid hn; have HBK := Lib.hid (H.out.blk.kp hkc (by have := H.out.lb; have := H.out.lB; omega)); have q0 : w4.cell? ⟨be, 0, none⟩ = some (.pointer (some ⟨b, 0, none⟩)) := HBK.out.cell 0; have q4 : w4.cell? ⟨be, 4, none⟩ = some (.slice A2 x.rngs.length c2) := HBK.out.cell 4; have q5 : w4.cell? ⟨be, 5, none⟩ = some (.slice A3 x.nams.length c3) := HBK.out.cell 5; have f4 := HBK.out.frozen 4; have f5 := HBK.out.frozen 5; clear hn hrw hps hkc))
  all_goals
    rw [HR.out, HN.out]
    go_end0
    have hne : be ≠ b := by have := H.out.lb; omega
    have hng : be ≠ g := by have := H.out.lg; omega
    refine ⟨_, rfl, rfl, ⟨v1, .slice A5 r.1.length c5, .slice A6 r.2.length c6, C, (HPS.out.far hne hng _).far hne hng _, ?_, (HRW.out.setCell H.out.lB _).setCell H.out.lB _, H.out.lb, H.out.lg, H.out.lB, by simpa using Nat.le_trans H.out.sz HKC.out.size⟩, ?_⟩
    · exact (HBK.out.set_ 4 _).set_ 5 _
    · exact ((Kc.kd HKC.out : Kd b be B w w4).setCell (fun _ => .inr (.inl rfl)) _).setCell (fun _ => .inr (.inl rfl)) _
end
end Go.Proofs.YthmdaejlopjjoaaGreatDoor
