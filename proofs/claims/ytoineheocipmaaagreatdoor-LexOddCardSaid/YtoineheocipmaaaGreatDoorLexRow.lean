/-
  lex: words of seeds, in a row.
-/
import Derived.Test.YtoineheocipmaaaGreatDoorLexMd2
namespace Go.Proofs.YtoineheocipmaaaGreatDoor
open Go.RowKit
set_option linter.unusedVariables false
set_option linter.unusedSimpArgs false

/-- A list of seeds that can be read, in blocks below hi. -/
def RdS (w : World) (hi : Nat) (v : Value) (l : List Sd) : Prop := ∃ A c, v = .slice A l.length c ∧ l.length ≤ c ∧ c ≤ maxLen ∧ (0 < l.length → ∃ g o, A = some ⟨g, o, none⟩ ∧ g < hi ∧ ∀ i (h : i < l.length), ∃ B m d,
  Bs w 0 hi B m d l[i].b ∧ w.cell? ⟨g, o + i * 3, none⟩ = some (.int .i64 l[i].k) ∧ w.cell? ⟨g, o + i * 3 + 1, none⟩ = some (.int .i64 l[i].n) ∧ w.cell? ⟨g, o + i * 3 + 2, none⟩ = some (.slice B m d))
theorem RdS.below {w w' : World} {hi : Nat} {v : Value} {l : List Sd} (h : RdS w hi v l) {B : Nat} (hb : Below B w w') (hB : hi ≤ B) : RdS w' hi v l := by
  obtain ⟨A, c, e, h1, h2, h3⟩ := h
  refine ⟨A, c, e, h1, h2, fun h0 => ?_⟩
  obtain ⟨g, o, hA, hg, hc⟩ := h3 h0
  refine ⟨g, o, hA, hg, fun i hi' => ?_⟩
  have k : ∀ j, w'.cell? ⟨g, j, none⟩ = w.cell? ⟨g, j, none⟩ := fun j => World.cell?_of_block (a := ⟨g, j, none⟩) (hb.block g (by omega))
  obtain ⟨D, m, d, hbs, c0, c1, c2⟩ := hc i hi'
  exact ⟨D, m, d, hbs.below hb hB, (k _).trans c0, (k _).trans c1, (k _).trans c2⟩
theorem RdS.pre {w : World} {hi n c : Nat} {A : Option Addr} {l : List Sd} (h : RdS w hi (.slice A n c) l) (k : Nat) (hk : k ≤ l.length) : RdS w hi (.slice A k c) (l.take k) := by
  obtain ⟨A', c', e, h1, h2, h3⟩ := h
  simp only [Value.slice.injEq] at e
  obtain ⟨rfl, rfl, rfl⟩ := e
  have hl : (l.take k).length = k := by simp; omega
  refine ⟨A, c, by rw [hl], by omega, h2, fun h0 => ?_⟩
  rw [hl] at h0
  obtain ⟨g, o, hA, hg, hc⟩ := h3 (by omega)
  refine ⟨g, o, hA, hg, fun i hi' => ?_⟩
  rw [hl] at hi'
  have := hc i (by omega)
  simpa using this
def rowI (l : List Sd) (i : Nat) : List Wi := (l.take i).map madeS
def rowS (l : List Sd) : List Wi := rowI l (min l.length 60)
theorem rowI_snoc {l : List Sd} {i : Nat} (h : i < l.length) : rowI l (i + 1) = rowI l i ++ [madeS l[i]] := by
  unfold rowI
  rw [List.take_succ_eq_append_getElem h, List.map_append]
  rfl
theorem rowI_len (l : List Sd) (i : Nat) : (rowI l i).length ≤ i := by unfold rowI; simp; omega
theorem rowS_len (l : List Sd) : (rowS l).length ≤ 60 := by have := rowI_len l (min l.length 60); unfold rowS; omega
theorem rowS_ok (l : List Sd) : ∀ x ∈ rowS l, WiOk x := by
  intro x hx
  obtain ⟨y, _, rfl⟩ := List.mem_map.1 hx
  exact made_ok _ _ _ (by have := brg_lt y.n 2147483649 (by omega); omega)
structure RwR (w : World) (hi : Nat) (v0 : Value) (l : List Sd) (i : Nat) (v : Value) (wr : World) : Prop where
  rd : RdS wr hi v0 l
  own : OwnI wr w.heap.size v (rowI l i)
  bel : Below w.heap.size w wr
set_option maxRecDepth 100000 in
set_option maxHeartbeats 1000000 in
theorem row_any (l : List Sd) (hi : Nat) (v : Value) (w : World) (hv : RdS w hi v l) (hhi : hi ≤ w.heap.size) :
    Calls Tryz.prog 17 #[v] w fun e w' => ∃ u, e = .returned u ∧ OwnI w' w.heap.size u (rowS l) ∧ Below w.heap.size w w' := by
  obtain ⟨i0, hi0, hz0, hz1, hz2⟩ := info_parts Tryz.info33
  have HST := Lib.hid (show RwR w hi v l 0 (.slice none 0 0) w from ⟨hv, OwnI.nil _ _, Below.refl _ _⟩)
  obtain ⟨A, c, rfl, hlc, hcm, _⟩ := hv
  have HHI := Lib.hid hhi
  clear hhi
  go_enter Tryz.func17, Tryz.ntmps17
  go_wp2_with fail
  go_loopg [3, 4] l.length (fun g v3 v4 wr => ∃ i : Nat, i ≤ l.length ∧ i ≤ 60 ∧ g = l.length - i ∧ v4 = .int .i64 i ∧ RwR w hi (.slice A l.length c) l i v3 wr)
  case atStart => exact ⟨0, by omega, by omega, rfl, rfl, HST.out⟩
  case round =>
    obtain ⟨i, hi1, hi60, rfl, rfl, hr⟩ := hrel
    have HR := Lib.hid hr
    by_cases hil : i < l.length ∧ i < 60
    · obtain ⟨hil, hi2⟩ := hil
      obtain ⟨A', c', he, _, _, hc⟩ := hr.rd
      obtain ⟨g, o, hA, hg, hcs⟩ := hc (by omega)
      simp only [Value.slice.injEq, true_and] at he
      obtain ⟨rfl, rfl⟩ := he
      subst hA
      obtain ⟨B, m, d, hbs, q0, q1, q2⟩ := hcs i hil
      have hil' : (i : Int) < (l.length : Int) := by omega
      have hi2' : (i : Int) < 60 := by omega
      have hsn := rowI_snoc hil
      have hln := rowI_len l i
      generalize hx : l[i] = x at *
      have hmd := made_any x B m d hi wr hbs (by have := HR.out.bel.size; have := HHI.out; omega)
      have HSN := Lib.hid hsn
      have HMD := Lib.hid hmd
      clear hr hc hcs hsn hbs hmd
      go_wp2_with fail
      refine (HMD.out).mono ?_
      rintro e w5 ⟨rfl, hb5⟩
      generalize madeS x = y at *
      have hnb := Blk.new w5 33 #[.int .i64 y.k, .int .i64 y.p, .string y.t, .int .i64 y.n]
      have h2c := hb5.trans (((Below.refl w5.heap.size w5).alloc (Nat.le_refl _) (.cells #[.int .i64 y.k, .int .i64 y.p, .string y.t, .int .i64 y.n] 33)).mono hb5.size)
      have HWO := Lib.hid (HR.out.own.below h2c)
      have HBX := Lib.hid (HR.out.bel.trans (h2c.mono HR.out.bel.size))
      have HBB := Lib.hid hnb
      have HRD := Lib.hid (HR.out.rd.below h2c (by have := HR.out.bel.size; have := HHI.out; omega))
      have HAL := Lib.hid (show (rowI l i).length ≤ 1073741824 by omega)
      unfold wiV
      clear hb5 hnb h2c
      go_wp2_with (at_builtin; refine wpList_append_i _ rfl _ _ 22 rfl i0 Tryz.underlying22 hi0 hz0 hz1 hz2 w.heap.size _ (rowI l i) rfl HWO.out w5.heap.size y rfl HBB.out HAL.out HBX.out.size ?_; intro v7 w7 ho7 hg7)
      have hgb := hg7.below HBX.out.size (fun g e => (HWO.out.lt e).1)
      have HF := Lib.hid (RwR.mk (w := w) (hi := hi) (i := i + 1) (HRD.out.below hgb HHI.out) (by rw [HSN.out]; exact ho7) (HBX.out.trans hgb))
      clear ho7 hg7 hgb HBX HWO HBB HRD
      go_wp2_with fail
      go_roundg (l.length - (i + 1))
      case measure => omega
      case rel => exact ⟨i + 1, by omega, by omega, rfl, by go_num, HF.out⟩
    · have hil' : ¬ (i : Int) < (l.length : Int) ∨ ((i : Int) < (l.length : Int) ∧ ¬ (i : Int) < 60) := by omega
      have HI := Lib.hid (show i = min l.length 60 by omega)
      clear hr hil
      rcases hil' with hq | ⟨hq, hq2⟩
      all_goals
        go_wp2_with fail
        refine bodyPost_ret (by simp [results, Tryz.results17, go_sem]; rfl) rfl ⟨_, rfl, ?_, HR.out.bel⟩
        unfold rowS
        rw [← HI.out]
        exact HR.out.own
end Go.Proofs.YtoineheocipmaaaGreatDoor
