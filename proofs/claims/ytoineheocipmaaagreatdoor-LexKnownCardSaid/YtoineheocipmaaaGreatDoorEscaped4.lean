/-
  appendEscaped: digits of a rune, of a byte.
-/
import Derived.Test.YtoineheocipmaaaGreatDoorEscaped3
namespace Go.Proofs.YtoineheocipmaaaGreatDoor
open Go.RowKit
open Go.Lib (byteCells)
set_option linter.unusedVariables false
set_option linter.unusedSimpArgs false

set_option maxRecDepth 100000 in
set_option maxHeartbeats 400000 in
theorem escaped_rune {w : World} {base b : Nat} {v : Value} {l : List UInt8} {x : Esc} {N : Int} {C : Nat} (s : ByteArray) (ho : Own w base v l) (hm : MapAt w b escs) (hsz : s.size ≤ 1000000) (hb : base ≤ w.heap.size) (hl0 : l.length ≤ 1000000000) (hp : 0 < s.size) (hx : lookT escT (s[0].toNat : Nat) = some x) (hbase : x.base ≠ 0)
    (hN : nmF x.base x.most 0 (s.data.toList.drop x.skip) = (N, C)) (hge : x.least ≤ C) (hxr : x.r = true) (hr : rnB N = true) :
    Calls Tryz.prog 201 #[v, .string s, .map (some b)] w (EscP w base l (Lib.encodeRune N, x.skip + C)) := by
  have e1 := (str_ne hp).1
  have e2 := (str_ne hp).2
  have hf := esc_fine _ _ hx
  have hl := run_look (P := Tryz.prog) hm Tryz.underlying240 Tryz.underlying5 (s[0].toNat : Nat) _ (Tryz.zero262 w)
  rw [escs_eq, look_map, hx] at hl
  simp only [Option.map_some, Option.getD_some, Option.isSome_some, Esc.val] at hl
  obtain ⟨xv, xb, xs, xl, xm, xr⟩ := x
  simp only at hl hf hbase hN hge hxr
  subst hxr
  obtain ⟨f1, f2, f3, f4⟩ := hf
  have hfine := nm_fine (by omega) f4 hN
  have hnum : ∀ W, Calls Tryz.prog 227 #[.string (s.extract xs s.size), .int .i64 xb, .int .i64 xm] W fun e w' => e = .returned (.tuple #[.int .i64 N, .int .i64 (C : Nat)]) ∧ w' = W := by
    intro W
    refine (number_any (s.extract xs s.size) xb xm W (by omega) (by omega) (by simp [ByteArray.size_extract]; omega)).mono ?_
    rw [Lib.extract_to_end, hN]
    exact fun e w' h => ⟨h.1, h.2.symm⟩
  have HNUM := Lib.hid hnum
  have hb0 : ((xb : Int) == 0) = false := by simp; omega
  have hx0 : (0 : Int) ≤ (xs : Int) := by omega
  have hx1 : (xs : Int) ≤ (s.size : Int) := by omega
  have hx2 : ((xs : Int)).toNat = xs := by omega
  obtain ⟨g1, g2, g3, g4⟩ := hfine
  have hrange : 0 ≤ N ∧ N ≤ 1114111 := by have := hr; unfold rnB at this; simp at this; omega
  obtain ⟨r0, r1⟩ := hrange
  have hge' : ¬ (C : Int) < (xl : Int) := by omega
  have hrn := fun W => isRune_any N W
  simp only [hr] at hrn
  have HRN := Lib.hid hrn
  have ag : v.ownBlock ≠ some w.heap.size := fun h => by have := (ho.lt h).2; omega
  have hwr : IntKind.i64.wrap ((xs : Int) + (C : Int)) = (xs : Int) + (C : Int) := IntWalk.i64_in _ (by omega)
  have hw32 : IntKind.i32.wrap N = N := IntWalk.i32_in _ (by omega)
  have hall : ∀ (m : Nat) W, W.heap = (w.alloc (.cells #[.int .u8 xv, .int .i64 xb, .int .i64 xs, .int .i64 xl, .int .i64 xm, .bool true] 262)).heap → Calls Tryz.prog 229 #[v, .int .i32 N] W fun e w' => ∃ v', e = .returned v' ∧ Own w' base v' (l ++ Lib.encodeRune N) ∧ Below base W w' ∧ w'.cell? ⟨w.heap.size, 2, none⟩ = some (.int .i64 xs) := by
    intro m W hW
    refine (appendRune_kept ⟨w.heap.size, 2, none⟩ (by rw [hW]; simp) ag (by omega) (by omega) ((ho.alloc _).kept fun g hg => by rw [hW]) (by omega) (by rw [hW]; simp; omega)).mono fun e w' h => ?_
    obtain ⟨v', h1, h2, h3, h4⟩ := h
    refine ⟨v', h1, h2, h3, ?_⟩
    have h5 : W.cell? ⟨w.heap.size, 2, none⟩ = (w.alloc (.cells #[.int .u8 xv, .int .i64 xb, .int .i64 xs, .int .i64 xl, .int .i64 xm, .bool true] 262)).cell? ⟨w.heap.size, 2, none⟩ := World.cell?_of_block (by rw [hW])
    rw [h4, h5]
    simp
  have HALL := Lib.hid hall
  have hB : ∀ (o : Obj) (m : Nat), Below base w ((w.alloc o).drewN m) := fun o m => Below.drewN_ ((Below.refl _ _).alloc hb _) _
  have HB := Lib.hid hB
  clear hB hall hrn hr hm hx hN hnum f2 f3 f4 hbase
  go_enter Tryz.func201, Tryz.ntmps201
  go_wp2_with fail
  go_quiet ((go_at_call 227; exact Calls.quiet_of_same (HNUM.out _)))
  go_wp2_with fail
  refine (HRN.out _).mono ?_
  rintro e _ ⟨rfl, rfl⟩
  go_wp2_with fail
  have HW := Lib.hid (HB.out (.cells #[.int .u8 xv, .int .i64 xb, .int .i64 xs, .int .i64 xl, .int .i64 xm, .bool true] 262) nq)
  have hc2 : ((w.alloc (.cells #[.int .u8 xv, .int .i64 xb, .int .i64 xs, .int .i64 xl, .int .i64 xm, .bool true] 262)).drewN nq).cell? ⟨w.heap.size, 2, none⟩ = some (.int .i64 xs) := by simp
  have hall := fun W (h : W.heap = ((w.alloc (.cells #[.int .u8 xv, .int .i64 xb, .int .i64 xs, .int .i64 xl, .int .i64 xm, .bool true] 262)).drewN nq).heap) => HALL.out 0 W h
  have HALL2 := Lib.hid hall
  clear hall HALL HB
  generalize ((w.alloc (.cells #[.int .u8 xv, .int .i64 xb, .int .i64 xs, .int .i64 xl, .int .i64 xm, .bool true] 262)).drewN nq) = W at *
  clear hl e1 e2 hb0 hx2 hge hge' g1 g2 g3 g4 f1 hx0 hx1 hsz hl0
  have HO := Lib.hid ho
  clear ho HNUM HRN ag hb r0 r1
  go_region_held3 (fun w' => w'.cell? ⟨w.heap.size, 2, none⟩ = some (.int .i64 xs)) (first | assumption | go_keep)
    (first | (go_at_call 229; refine (HALL2.out _ (by rfl)).mono ?_; rintro e w2 ⟨v2, rfl, ho2, hb2, hc3⟩))
  go_wp2_with fail
  go_ret2
  exact ⟨_, rfl, ho2, HW.out.drew.trans hb2⟩
end Go.Proofs.YtoineheocipmaaaGreatDoor
