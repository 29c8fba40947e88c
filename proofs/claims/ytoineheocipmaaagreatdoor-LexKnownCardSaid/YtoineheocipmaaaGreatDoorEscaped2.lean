/-
  appendEscaped, walked.
-/
import Derived.Test.YtoineheocipmaaaGreatDoorEscaped
import Derived.Deep.DeepCutAuto
import Derived.Deep.RegionHeld3
namespace Go.Proofs.YtoineheocipmaaaGreatDoor
open Go.RowKit
set_option linter.unusedVariables false
set_option linter.unusedSimpArgs false

/-- Bytes joined, and how many bytes were read. -/
def EscP (w : World) (base : Nat) (l : List UInt8) (R : List UInt8 × Nat) (e : Ending) (w' : World) : Prop := ∃ v', e = .returned (.tuple #[v', .int .i64 (R.2 : Nat)]) ∧ Own w' base v' (l ++ R.1) ∧ Below base w w'

theorem Tryz.zero262 (w : World) : (zeroValue 262).run Tryz.prog w = .ok (.agg #[.int .u8 0, .int .i64 0, .int .i64 0, .int .i64 0, .int .i64 0, .bool false]) w := by kernel_rfl

set_option maxRecDepth 100000 in
set_option maxHeartbeats 1000000 in
theorem escaped_none {w : World} {base b : Nat} {v : Value} {l : List UInt8} (s : ByteArray) (ho : Own w base v l) (hm : MapAt w b escs) (hsz : s.size ≤ 1000000) (hb : base ≤ w.heap.size) (hno : s.size = 0 ∨ ∃ h : 0 < s.size, lookT escT (s[0].toNat : Nat) = none) :
    Calls Tryz.prog 201 #[v, .string s, .map (some b)] w (EscP w base l ([], 0)) := by
  obtain ⟨A, k, c, rfl⟩ := ho.val
  rcases hno with h0 | ⟨hp, hn⟩
  · have hn := (str_nil h0).1
    have hn2 := (str_nil h0).2
    go_enter Tryz.func201, Tryz.ntmps201
    go_wp2
    go_ret2
    exact ⟨_, rfl, by simpa using ho, Below.refl _ _⟩
  · have e1 := (str_ne hp).1
    have e2 := (str_ne hp).2
    have hl := run_look (P := Tryz.prog) hm Tryz.underlying240 Tryz.underlying5 (s[0].toNat : Nat) _ (Tryz.zero262 w)
    rw [escs_eq, look_map, hn] at hl
    simp only [Option.map_none, Option.getD_none, Option.isSome_none] at hl
    clear hn hm
    go_enter Tryz.func201, Tryz.ntmps201
    go_wp2
    go_ret2
    exact ⟨_, rfl, by rw [List.append_nil]; exact ho.alloc _, (Below.refl _ _).alloc hb _⟩

set_option maxRecDepth 100000 in
set_option maxHeartbeats 1000000 in
theorem escaped_byte {w : World} {base b : Nat} {v : Value} {l : List UInt8} {x : Esc} (s : ByteArray) (ho : Own w base v l) (hm : MapAt w b escs) (hsz : s.size ≤ 1000000) (hb : base ≤ w.heap.size) (hl0 : l.length ≤ 1000000000) (hp : 0 < s.size) (hx : lookT escT (s[0].toNat : Nat) = some x) (hbase : x.base = 0) :
    Calls Tryz.prog 201 #[v, .string s, .map (some b)] w (EscP w base l ([UInt8.ofNat x.v], 1)) := by
  obtain ⟨i0, hi0, hz0, hz1, hz2⟩ := info_parts Tryz.info5
  have e1 := (str_ne hp).1
  have e2 := (str_ne hp).2
  have hf := esc_fine _ _ hx
  have hl := run_look (P := Tryz.prog) hm Tryz.underlying240 Tryz.underlying5 (s[0].toNat : Nat) _ (Tryz.zero262 w)
  rw [escs_eq, look_map, hx] at hl
  simp only [Option.map_some, Option.getD_some, Option.isSome_some, Esc.val] at hl
  obtain ⟨xv, xb, xs, xl, xm, xr⟩ := x
  simp only at hl hf hbase
  subst hbase
  have hv := hf.1
  have hb0 : (((0 : Nat) : Int) == 0) = true := rfl
  clear hx hm hf
  have hsing : ∀ o : Obj, Bs ((w.alloc o).alloc (.cells #[.int .u8 (xv : Int)] 5)) (w.heap.size + 1) (w.heap.size + 1 + 1) (some ⟨w.heap.size + 1, 0, none⟩) 1 1 [UInt8.ofNat xv] := by
    intro o
    have := Bs.single (w.alloc o) (xv : Int) (by omega) (by omega)
    simpa using this
  have HSG := Lib.hid hsing
  have hln : l.length + 1 ≤ 140737488355328 := by omega
  clear hsing
  go_enter Tryz.func201, Tryz.ntmps201
  go_wp2_with (at_builtin; refine wpList_append_bs _ rfl _ _ 42 rfl i0 Tryz.underlying42 hi0 hz0 hz1 hz2 base _ _ rfl ((ho.alloc _).alloc _) _ _ _ _ _ _ rfl (HSG.out _) hln (by simp; omega) ?_; intro v2 w2 ho2 hg2)
  go_ret2
  exact ⟨_, rfl, ho2, ((((Below.refl _ _).alloc hb _).alloc (by simp; omega) _)).trans (hg2.below (by simp; omega) (fun g e => (ho.lt e).1))⟩
end Go.Proofs.YtoineheocipmaaaGreatDoor
