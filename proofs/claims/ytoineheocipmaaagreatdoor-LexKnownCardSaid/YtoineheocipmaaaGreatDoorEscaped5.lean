/-
  appendEscaped: digits of a rune, of a byte.
-/
import Derived.Test.YtoineheocipmaaaGreatDoorEscaped4
namespace Go.Proofs.YtoineheocipmaaaGreatDoor
open Go.RowKit
open Go.Lib (byteCells)
set_option linter.unusedVariables false
set_option linter.unusedSimpArgs false

set_option maxRecDepth 100000 in
set_option maxHeartbeats 400000 in
theorem escaped_num {w : World} {base b : Nat} {v : Value} {l : List UInt8} {x : Esc} {N : Int} {C : Nat} (s : ByteArray) (ho : Own w base v l) (hm : MapAt w b escs) (hsz : s.size ≤ 1000000) (hb : base ≤ w.heap.size) (hl0 : l.length ≤ 1000000000) (hp : 0 < s.size) (hx : lookT escT (s[0].toNat : Nat) = some x) (hbase : x.base ≠ 0)
    (hN : nmF x.base x.most 0 (s.data.toList.drop x.skip) = (N, C)) (hge : x.least ≤ C) (hxr : x.r = false) (hr : N ≤ 255) :
    Calls Tryz.prog 201 #[v, .string s, .map (some b)] w (EscP w base l ([UInt8.ofNat N.toNat], x.skip + C)) := by
  have e1 := (str_ne hp).1
  have e2 := (str_ne hp).2
  have hf := esc_fine _ _ hx
  have hl := run_look (P := Tryz.prog) hm Tryz.underlying240 Tryz.underlying5 (s[0].toNat : Nat) _ (Tryz.zero262 w)
  rw [escs_eq, look_map, hx] at hl
  simp only [Option.map_some, Option.getD_some, Option.isSome_some, Esc.val] at hl
  obtain ⟨xv, xb, xs, xl, xm, xr⟩ := x
  simp only at hl hf hbase hN hge hxr
  subst hxr
  obtain ⟨f1, f2, f3, f4⟩ := hf
  have hfine := nm_fine (by omega) f4 hN
  have hnum : ∀ W, Calls Tryz.prog 227 #[.string (s.extract xs s.size), .int .i64 xb, .int .i64 xm] W fun e w' => e = .returned (.tuple #[.int .i64 N, .int .i64 (C : Nat)]) ∧ w' = W := by
    intro W
    refine (number_any (s.extract xs s.size) xb xm W (by omega) (by omega) (by simp [ByteArray.size_extract]; omega)).mono ?_
    rw [Lib.extract_to_end, hN]
    exact fun e w' h => ⟨h.1, h.2.symm⟩
  have HNUM := Lib.hid hnum
  have hb0 : ((xb : Int) == 0) = false := by simp; omega
  have hx0 : (0 : Int) ≤ (xs : Int) := by omega
  have hx1 : (xs : Int) ≤ (s.size : Int) := by omega
  have hx2 : ((xs : Int)).toNat = xs := by omega
  obtain ⟨g1, g2, g3, g4⟩ := hfine
  have hge' : ¬ (C : Int) < (xl : Int) := by omega
  have ag : v.ownBlock ≠ some w.heap.size := fun h => by have := (ho.lt h).2; omega
  have hwr : IntKind.i64.wrap ((xs : Int) + (C : Int)) = (xs : Int) + (C : Int) := IntWalk.i64_in _ (by omega)
  have hw8 : IntKind.u8.wrap N = N := IntWalk.u8_in _ (by omega)
  have hall : ∀ (o : Obj) W, W.heap = (w.alloc o).heap → Own W base v l := fun o W hW => (ho.alloc o).kept fun g hg => by rw [hW]
  have HALL := Lib.hid hall
  have hB : ∀ (o : Obj) (m : Nat), Below base w ((w.alloc o).drewN m) := fun o m => Below.drewN_ ((Below.refl _ _).alloc hb _) _
  have HB := Lib.hid hB
  clear hB hall hm hx hN hnum f2 f3 f4 hbase
  go_enter Tryz.func201, Tryz.ntmps201
  go_wp2_with fail
  go_quiet ((go_at_call 227; exact Calls.quiet_of_same (HNUM.out _)))
  go_wp2_with fail
  have HW := Lib.hid (HB.out (.cells #[.int .u8 xv, .int .i64 xb, .int .i64 xs, .int .i64 xl, .int .i64 xm, .bool false] 262) nq)
  have hc2 : ((w.alloc (.cells #[.int .u8 xv, .int .i64 xb, .int .i64 xs, .int .i64 xl, .int .i64 xm, .bool false] 262)).drewN nq).cell? ⟨w.heap.size, 2, none⟩ = some (.int .i64 xs) := by simp
  have hall := HALL.out (.cells #[.int .u8 xv, .int .i64 xb, .int .i64 xs, .int .i64 xl, .int .i64 xm, .bool false] 262) ((w.alloc (.cells #[.int .u8 xv, .int .i64 xb, .int .i64 xs, .int .i64 xl, .int .i64 xm, .bool false] 262)).drewN nq) rfl
  have hgt : w.heap.size < ((w.alloc (.cells #[.int .u8 xv, .int .i64 xb, .int .i64 xs, .int .i64 xl, .int .i64 xm, .bool false] 262)).drewN nq).heap.size := by simp
  have hln : l.length + 1 ≤ maxLen := by unfold maxLen; omega
  have hl2 : (l.length + 1) * 1 ≤ 140737488355328 := by omega
  have OW := Lib.hid hall
  clear hall HALL HB
  generalize ((w.alloc (.cells #[.int .u8 xv, .int .i64 xb, .int .i64 xs, .int .i64 xl, .int .i64 xm, .bool false] 262)).drewN nq) = W at *
  have hbW : base ≤ W.heap.size + 1 := by omega
  have HBB := Lib.hid (show base ≤ W.heap.size by omega)
  clear hl e1 e2 hb0 hx2 hge hge' g3 g4 f1 hx0 hx1 hsz hl0
  have HO := Lib.hid ho
  have AG := Lib.hid ag
  clear ho HNUM ag hb
  obtain ⟨i0, hi0, hz0, hz1, hz2⟩ := info_parts Tryz.info5
  go_region_held3 (fun w' => w'.cell? ⟨w.heap.size, 2, none⟩ = some (.int .i64 xs))
    (first | assumption | go_keep | (refine (hgrow.cell_far _ (by simp; omega) (Ne.symm AG.out)).trans ?_; go_keep))
    ((refine step_append_lies _ (by rfl) _ _ _ (by rfl) base 5 i0 (.int .u8 0) 1 1 Tryz.underlying42 hi0 hz0 hz1 hz2 rfl (by omega) v l.length (byteCells l) (by rfl) ((OW.out.alloc _).drew)
        ⟨W.heap.size, 0, none⟩ 1 1 [.int .u8 N] (by rfl) (by rfl) (World.news_of_block (cs := #[.int .u8 N]) (t := 5) (fr := (0, 0)) (heap_alloc_new W _)) (by simp [Value.oneCell'])
        (by omega) hln hl2 (by simp; omega) (W.heap.size + 1) (by simp) ?_; intro gg cap w1 hown1 hgrow hat hlt))
  go_wp2_with fail
  go_ret2
  refine ⟨_, rfl, ?_, HW.out.trans (Below.grown ((((Below.refl _ _).alloc (Nat.le_refl _) _).drew).mono HBB.out) hgrow (by simp; omega) (fun g e => (HO.out.lt e).1))⟩
  unfold Own
  rw [List.length_append, Lib.byteCells_append]
  have e : byteCells [UInt8.ofNat N.toNat] = [.int .u8 N] := by simp only [byteCells, List.map_cons, List.map_nil]; rw [ofNat_toNat8 g1 (by omega)]
  rw [e]
  exact hown1

/-- appendEscaped: the bytes are joined, and it is told how many bytes of the text they took. -/
theorem escaped_any {w : World} {base b : Nat} {v : Value} {l : List UInt8} (s : ByteArray) (ho : Own w base v l) (hm : MapAt w b escs) (hsz : s.size ≤ 1000000) (hb : base ≤ w.heap.size) (hl0 : l.length ≤ 1000000000) :
    Calls Tryz.prog 201 #[v, .string s, .map (some b)] w (EscP w base l (escL s.data.toList)) := by
  rcases Nat.eq_zero_or_pos s.size with h0 | hp
  · have hl : s.data.toList = [] := List.eq_nil_of_length_eq_zero (by simpa using h0)
    rw [hl, escL]
    exact escaped_none s ho hm hsz hb (.inl h0)
  · have hc : s.data.toList = s[0] :: s.data.toList.drop 1 := by
      have := drop_at s 0 hp
      simpa using this
    have he : escL s.data.toList = match lookT escT (s[0].toNat : Nat) with | none => ([], 0) | some x => escX x s.data.toList := by
      conv => lhs; rw [hc]
      rw [escL, ← hc]
      rfl
    rw [he]
    cases hx : lookT escT (s[0].toNat : Nat) with
    | none => exact escaped_none s ho hm hsz hb (.inr ⟨hp, hx⟩)
    | some x =>
      simp only [escX]
      by_cases h0 : x.base = 0
      · rw [if_pos h0]
        exact escaped_byte s ho hm hsz hb hl0 hp hx h0
      · rw [if_neg h0]
        obtain ⟨⟨N, C⟩, hN⟩ : ∃ q, nmF x.base x.most 0 (s.data.toList.drop x.skip) = q := ⟨_, rfl⟩
        rw [hN, escN]
        simp only
        by_cases hge : C < x.least
        · rw [if_pos hge]; exact escaped_few s ho hm hsz hb hl0 hp hx h0 hN (.inl hge)
        · rw [if_neg hge]
          cases hr : x.r
          · by_cases hn : N ≤ 255
            · simp only [Bool.false_and, Bool.not_false, Bool.true_and, hn, decide_true, if_true, Bool.false_eq_true, if_false]
              exact escaped_num s ho hm hsz hb hl0 hp hx h0 hN (by omega) hr hn
            · simp only [Bool.false_and, Bool.not_false, Bool.true_and, hn, decide_false, Bool.false_eq_true, if_false]
              exact escaped_few s ho hm hsz hb hl0 hp hx h0 hN (.inr ⟨by omega, .inr ⟨hr, by omega⟩⟩)
          · cases hn : rnB N
            · simp only [Bool.true_and, Bool.not_true, Bool.false_and, Bool.false_eq_true, if_false]
              exact escaped_few s ho hm hsz hb hl0 hp hx h0 hN (.inr ⟨by omega, .inl ⟨hr, hn⟩⟩)
            · simp only [Bool.true_and, if_true]
              exact escaped_rune s ho hm hsz hb hl0 hp hx h0 hN (by omega) hr hn
end Go.Proofs.YtoineheocipmaaaGreatDoor
