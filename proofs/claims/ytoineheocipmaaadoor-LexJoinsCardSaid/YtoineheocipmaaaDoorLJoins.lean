/-
  LexJoins, walked.
-/
import Derived.Test.YtoineheocipmaaaDoorLexJ
import Derived.Test.YtoineheocipmaaaDoorLexRW
import Derived.WideShapes
namespace Go.Proofs.YtoineheocipmaaaDoor
open Go.RowKit
set_option linter.unusedVariables false
set_option linter.unusedSimpArgs false

structure SmI (w w1 : World) (l : List Wi) (h1 h2 : Nat) (v u : Value) : Prop where
  o1 : RdI w1 h1 v l
  o2 : RdI w1 h2 u l
  b : Below w.heap.size w w1
theorem SmI.drewN {w w1 : World} {l : List Wi} {B1 B2 : Nat} {v u : Value} (h : SmI w w1 l B1 B2 v u) (m : Nat) : SmI w (w1.drewN m) l B1 B2 v u := ⟨h.o1, h.o2, Below.drewN_ h.b m⟩
set_option maxRecDepth 100000 in
set_option maxHeartbeats 1000000 in
/-- Same of two lists of the same words. -/
theorem same_rd (l : List Wi) (h1 h2 : Nat) (v u : Value) (w : World) (hv : RdI w h1 v l) (hu : RdI w h2 u l) (hl : l.length ≤ 1000000) :
    Calls Tryd.prog 7 #[v, u] w fun e w' => e = .returned (.bool true) ∧ Below w.heap.size w w' := by
  have HS := Lib.hid (SmI.mk (w := w) hv hu (Below.refl _ _))
  obtain ⟨A, c, rfl, _, _, _⟩ := hv
  obtain ⟨D, d, rfl, _, _, _⟩ := hu
  go_enter Tryd.func7, Tryd.ntmps7
  go_wp2_with fail
  go_loopg [5] l.length (fun g v wr => ∃ i : Nat, i ≤ l.length ∧ g = l.length - i ∧ v = .int .i64 i ∧ SmI w wr l h1 h2 (.slice A l.length c) (.slice D l.length d))
  case atStart => exact ⟨0, by omega, rfl, rfl, HS.out⟩
  case round =>
    obtain ⟨i, hi, rfl, rfl, hr⟩ := hrel
    have HR := Lib.hid hr
    by_cases hil : i < l.length
    · obtain ⟨A', c', he, _, _, hc⟩ := hr.o1
      obtain ⟨D', d', he2, _, _, hc2⟩ := hr.o2
      obtain ⟨g, o, hA, _, hcs⟩ := hc (by omega)
      obtain ⟨g2, o2, hA2, _, hcs2⟩ := hc2 (by omega)
      simp only [Value.slice.injEq, true_and] at he he2
      obtain ⟨rfl, rfl⟩ := he
      obtain ⟨rfl, rfl⟩ := he2
      subst hA hA2
      obtain ⟨q0, q1, q2, q3⟩ := hcs i hil
      obtain ⟨p0, p1, p2, p3⟩ := hcs2 i hil
      have hil' : (i : Int) < (l.length : Int) := by omega
      generalize hx : l[i] = x at *
      clear hr hc hcs hc2 hcs2
      go_wp2_with fail
      go_quiet (fail)
      go_wp2_with fail
      go_roundg (l.length - (i + 1))
      case measure => omega
      case rel => exact ⟨i + 1, by omega, rfl, by go_num, HR.out.drewN _⟩
    · obtain rfl : i = l.length := by omega
      clear hr
      go_wp2_with fail
      refine bodyPost_ret (v := .bool true) (by simp [results, Tryd.results7, go_sem]) rfl ⟨rfl, HR.out.b⟩
/-- append(v, src...) of words: v is nil or the call's own, src is any list of words that can be read. -/
theorem run_append_is {P : Program} {w : World} {base hi : Nat} {v u : Value} {xs l : List Wi} (t ty : TypeId) (i : TypeInfo)
    (ht : P.underlying t = some (.slice 24)) (hi33 : P.info? 24 = some i) (hz : i.zero = some (.agg #[.int .i64 0, .int .i64 0, .string ⟨#[]⟩, .int .i64 0])) (hsize : i.size = 4) (hby : i.bytes = 40)
    (hown : OwnI w base v xs) (hu : RdI w hi u l) (hlen : xs.length + l.length ≤ 1073741824) (hbase : base ≤ w.heap.size) :
    ∃ v' w', (Builtin.append_ #[t, t] ty #[v, u]).run P w = .ok v' w' ∧ OwnI w' base v' (xs ++ l) ∧ Grew w w' v v' := by
  obtain ⟨A, c, rfl, hlc, hcm, hrd⟩ := hu
  rcases Nat.eq_zero_or_pos l.length with h0 | h0
  · have hl : l = [] := List.eq_nil_of_length_eq_zero h0
    subst hl
    refine ⟨v, w, ?_, by simpa using hown, Grew.refl _ _⟩
    rcases A with _ | a
    · rcases hown.2 with ⟨rfl, hx⟩ | ⟨g, cap, cur, rfl, _, _, hnc, _⟩
      · simp [Builtin.append_, run_underlying ht, sizeOf, typeInfo, hi33, Builtin.lenOf, Builtin.firstCells]
      · simp [Builtin.append_, run_underlying ht, sizeOf, typeInfo, hi33, Builtin.lenOf, Builtin.firstCells, hnc, storeCells]
    · have hl : (loadCells a 0).run P w = .ok #[] w := by simpa using run_loadCells_list (P := P) w a [] (fun j v hj => by simp at hj)
      rcases hown.2 with ⟨rfl, hx⟩ | ⟨g, cap, cur, rfl, _, _, hnc, _⟩
      · simp [Builtin.append_, run_underlying ht, sizeOf, typeInfo, hi33, Builtin.lenOf, Builtin.firstCells, hl]
      · simp [Builtin.append_, run_underlying ht, sizeOf, typeInfo, hi33, Builtin.lenOf, Builtin.firstCells, hnc, storeCells, hl]
  · obtain ⟨g, o, rfl, hg, hcs⟩ := hrd h0
    have hnews : ∀ j u, (ics l)[j]? = some u → w.cell? ((⟨g, o, none⟩ : Addr).add j) = some u := by
      intro j u hj
      have hlt : j < l.length * 4 := by
        rcases Nat.lt_or_ge j (ics l).length with q | q
        · rw [ics_len] at q; exact q
        · rw [List.getElem?_eq_none q] at hj; cases hj
      obtain ⟨q, r, rfl, hr⟩ : ∃ q r, j = q * 4 + r ∧ r < 4 := ⟨j / 4, j % 4, by omega, by omega⟩
      have hq : q < l.length := by omega
      obtain ⟨a0, a1, a2, a3⟩ := ics_at l q hq
      obtain ⟨c0, c1, c2, c3⟩ := hcs q hq
      rw [Go.WideShapes.add_plain]
      obtain rfl | rfl | rfl | rfl : r = 0 ∨ r = 1 ∨ r = 2 ∨ r = 3 := by omega
      · rw [Nat.add_zero] at hj ⊢
        rw [a0] at hj; rw [c0]; exact hj
      · rw [a1] at hj; rw [← Nat.add_assoc, c1]; exact hj
      · rw [a2] at hj; rw [← Nat.add_assoc, c2]; exact hj
      · rw [a3] at hj; rw [← Nat.add_assoc, c3]; exact hj
    have hone : ∀ u ∈ ics l, u.oneCell' = true := by
      intro u hu
      obtain ⟨x, _, hx⟩ := List.mem_flatMap.1 hu
      simp only [Wi.cs, List.mem_cons, List.mem_nil_iff, or_false] at hx
      rcases hx with rfl | rfl | rfl | rfl <;> rfl
    obtain ⟨v', w', hrun, h2, h3, _, h5⟩ := run_append_own_at (P := P) w base t ty 24 i _ 4 40 ht hi33 hz hsize hby rfl (by omega) v xs.length (ics xs) hown ⟨g, o, none⟩ l.length c (ics l) (ics_len l) hnews hone (by unfold maxLen; omega) (by omega) hbase
    refine ⟨v', w', hrun, ?_, ⟨h3, h5.imp id fun e => ⟨_, e, Nat.le_refl _⟩⟩⟩
    unfold OwnI
    have e : ics (xs ++ l) = ics xs ++ ics l := by simp [ics]
    rw [e, List.length_append]
    exact h2
theorem wpList_append_is {P : Program} (w : World) {ops : Array Oper} {rest : List Oper} {o : Oper} {a : Act} {Q : Exit → Act → World → Prop} (hgd : o.guard = none) (s x : Operand) (t : TypeId)
    (ho : o.op = .call { callee := .builtin .append, args := #[s, x], argTypes := #[t, t] }) (i : TypeInfo)
    (ht : P.underlying t = some (.slice 24)) (hi : P.info? 24 = some i) (hz : i.zero = some (.agg #[.int .i64 0, .int .i64 0, .string ⟨#[]⟩, .int .i64 0])) (hsize : i.size = 4) (hby : i.bytes = 40)
    (base hi' : Nat) (v u : Value) (xs l : List Wi) (hs : a.eval s = v) (hown : OwnI w base v xs) (hx : a.eval x = u) (hu : RdI w hi' u l)
    (hlen : xs.length + l.length ≤ 1073741824) (hbase : base ≤ w.heap.size)
    (h : ∀ v' w', OwnI w' base v' (xs ++ l) → Grew w w' v v' → wpList P ops Q rest (a.put o.dst v') w') : wpList P ops Q (o :: rest) a w :=
  wpList_plain hgd fun _ hK => by
    obtain ⟨v', w', hrun, h2, h3⟩ := run_append_is (P := P) t o.type i ht hi hz hsize hby hown hu hlen hbase
    unfold Oper.wp execOp
    simp only [ho, resolve, invoke, builtin, Sem.run_bind, Sem.run_pure, Result.andThen_ok, List.map_toArray, List.map_cons, List.map_nil, hs, hx, hrun]
    exact hK _ _ (h v' w' h2 h3)
def cutI (x : Wi) : Wi := ⟨x.k, x.p, x.t.extract 0 (min x.t.size 40), x.n⟩
def inI (l : List Wi) (i : Nat) : List Wi := (l.take i).map cutI
theorem inI_snoc {l : List Wi} {i : Nat} (h : i < l.length) : inI l (i + 1) = inI l i ++ [cutI l[i]] := by
  unfold inI
  rw [take_snoc_i h, List.map_append]
  rfl
theorem inI_len (l : List Wi) (i : Nat) : (inI l i).length ≤ i := by unfold inI; simp; omega
theorem inI_few (l : List Wi) (i : Nat) : ∀ x ∈ inI l i, x.t.size ≤ 1000 := by
  intro x hx
  obtain ⟨y, _, rfl⟩ := List.mem_map.1 hx
  simp [cutI, ByteArray.size_extract]
  omega
structure LjR (w : World) (v0 : Value) (l : List Wi) (i : Nat) (v : Value) (wr : World) : Prop where
  rd : RdI wr w.heap.size v0 l
  own : OwnI wr w.heap.size v (inI l i)
  bel : Below w.heap.size w wr
set_option maxRecDepth 100000 in
set_option maxHeartbeats 1000000 in
theorem joins_any (l : List Wi) (v : Value) (w : World) (hE : Env w) (hv : RdI w w.heap.size v l) :
    Calls Tryd.prog 3 #[v] w fun e w' => e = .returned (.bool true) ∧ Below w.heap.size w w' := by
  obtain ⟨i0, hi0, hz0, hz1, hz2⟩ := info_parts Tryd.info24
  have HST := Lib.hid (show LjR w v l 0 (.slice none 0 0) w from ⟨hv, OwnI.nil _ _, Below.refl _ _⟩)
  obtain ⟨A, c, rfl, hlc, hcm, _⟩ := hv
  have HE := Lib.hid hE
  clear hE
  go_enter Tryd.func3, Tryd.ntmps3
  go_wp2_with fail
  go_loopg [3, 4] l.length (fun g v3 v4 wr => ∃ i : Nat, i ≤ l.length ∧ i ≤ 100 ∧ g = l.length - i ∧ v4 = .int .i64 i ∧ LjR w (.slice A l.length c) l i v3 wr)
  case atStart => exact ⟨0, by omega, by omega, rfl, rfl, HST.out⟩
  case round =>
    obtain ⟨i, hi1, hi100, rfl, rfl, hr⟩ := hrel
    have HR := Lib.hid hr
    by_cases hil : i < l.length ∧ i < 100
    · obtain ⟨hil, hi2⟩ := hil
      obtain ⟨A', c', he, _, _, hc⟩ := hr.rd
      obtain ⟨g, o, hA, hg, hcs⟩ := hc (by omega)
      simp only [Value.slice.injEq, true_and] at he
      obtain ⟨rfl, rfl⟩ := he
      subst hA
      obtain ⟨q0, q1, q2, q3⟩ := hcs i hil
      have hil' : (i : Int) < (l.length : Int) := by omega
      have hi2' : (i : Int) < 100 := by omega
      have hsn := inI_snoc hil
      have hln := inI_len l i
      generalize hx : l[i] = x at *
      obtain ⟨m, hm, hm1, hm2⟩ : ∃ m : Nat, min (x.t.size : Int) 40 = (m : Int) ∧ m ≤ x.t.size ∧ m = min x.t.size 40 := ⟨min x.t.size 40, by omega, by omega, rfl⟩
      have hm3 : (m : Int) ≤ (x.t.size : Int) := by omega
      have HSN := Lib.hid hsn
      have HM2 := Lib.hid hm2
      clear hr hc hcs hsn hm2
      obtain ⟨y, hy⟩ : ∃ y : Wi, y = ⟨x.k, x.p, x.t.extract 0 m, x.n⟩ := ⟨_, rfl⟩
      have hcy : cutI x = y := by rw [hy, HM2.out]; rfl
      obtain ⟨h2a, h2b, h2c⟩ := two33 wr #[.int .i64 x.k, .int .i64 x.p, .string (x.t.extract 0 m), .int .i64 x.n] #[.int .i64 x.k, .int .i64 x.p, .string (x.t.extract 0 m), .int .i64 x.n]
      have HWO := Lib.hid (HR.out.own.below h2c)
      have HBX := Lib.hid (HR.out.bel.trans (h2c.mono HR.out.bel.size))
      have HBB := Lib.hid (show Blk _ _ 24 #[.int .i64 y.k, .int .i64 y.p, .string y.t, .int .i64 y.n] by rw [hy]; exact h2b)
      have HRD := Lib.hid (HR.out.rd.below h2c HR.out.bel.size)
      have HCY := Lib.hid hcy
      have HAL := Lib.hid (show (inI l i).length ≤ 1073741824 by omega)
      clear h2a h2b h2c hcy hy
      go_wp2_with (at_builtin; refine wpList_append_i _ rfl _ _ 22 rfl i0 Tryd.underlying22 hi0 hz0 hz1 hz2 w.heap.size _ (inI l i) rfl HWO.out (wr.heap.size + 1) y rfl HBB.out HAL.out HBX.out.size ?_; intro v5 w5 ho5 hg5)
      have hgb := hg5.below HBX.out.size (fun g e => (HWO.out.lt e).1)
      have HF := Lib.hid (LjR.mk (w := w) (i := i + 1) (HRD.out.below hgb (Nat.le_refl _)) (by rw [HSN.out, HCY.out]; exact ho5) (HBX.out.trans hgb))
      clear ho5 hg5 hgb HBX HWO HBB HRD
      go_wp2_with fail
      go_roundg (l.length - (i + 1))
      case measure => omega
      case rel => exact ⟨i + 1, by omega, by omega, rfl, by go_num, HF.out⟩
    · have hil' : ¬ (i : Int) < (l.length : Int) ∨ ((i : Int) < (l.length : Int) ∧ ¬ (i : Int) < 100) := by omega
      have hln := inI_len l i
      have hfw := inI_few l i
      obtain ⟨L, hL⟩ : ∃ L, L = inI l i := ⟨_, rfl⟩
      have hown := hr.own
      rw [← hL] at hln hfw hown
      have HOWN := Lib.hid hown
      have HFW := Lib.hid hfw
      obtain ⟨A3, c3, rfl, hlc3, hcm3, hrd3⟩ := hown.rd
      clear hr hil hown hrd3 hL hfw
      rcases hil' with hq | ⟨hq, hq2⟩
      all_goals
        have hnw := (Below.refl wr.heap.size wr).alloc (Nat.le_refl _) (.cells #[] 24)
        have hzo : OwnI (wr.alloc (.cells #[] 24)) w.heap.size (.slice (some ⟨wr.heap.size, 0, none⟩) 0 0) [] := ⟨rfl, .inr ⟨wr.heap.size, 0, #[], rfl, HR.out.bel.size, heap_alloc_new wr _, Nat.le_refl _, by unfold maxLen; omega, rfl, rfl⟩⟩
        have HZO := Lib.hid hzo
        have HO4 := Lib.hid (HOWN.out.below hnw)
        have HBE4 := Lib.hid (HR.out.bel.trans (hnw.mono HR.out.bel.size))
        have HRD4 := Lib.hid (HO4.out.rd)
        have HN := Lib.hid (show ([] : List Wi).length + L.length ≤ 1073741824 by simp; omega)
        clear hnw hzo
        go_wp2_with (at_builtin; refine wpList_append_is _ rfl _ _ 22 rfl i0 Tryd.underlying22 hi0 hz0 hz1 hz2 w.heap.size _ _ _ [] L rfl HZO.out rfl HRD4.out HN.out HBE4.out.size ?_; intro v5 w5 ho5 hg5)
        have hb45 := hg5.below HBE4.out.size (fun g e => by have h : wr.heap.size = g := Option.some.inj e; have := HR.out.bel.size; omega)
        have hin5 : OwnI w5 w.heap.size (.slice A3 L.length c3) L := HO4.out.kept fun g hg => hg5.1.block g (HO4.out.lt hg).2 (by intro e; have h : g = wr.heap.size := Option.some.inj e; have := (HOWN.out.lt hg).2; omega)
        rw [List.nil_append] at ho5
        have HIN5 := Lib.hid hin5.rd
        have HOW5 := Lib.hid ho5.rd
        have HBE5 := Lib.hid (HBE4.out.trans hb45)
        obtain ⟨A6, c6, rfl, _, _, _⟩ := ho5.rd
        have hj1 := join_any L _ _ w5 HIN5.out (Nat.le_refl _) (by omega) HFW.out
        have hj2 := fun W (h : RdI W w5.heap.size (.slice A6 L.length c6) L) (h2 : w5.heap.size ≤ W.heap.size) => refJoin_any L _ _ W h h2 (by omega) HFW.out
        unfold StrP at hj1 hj2
        generalize (⟨(jL L).toArray⟩ : ByteArray) = T at *
        have heq : (T.toList == T.toList) = true := by simp
        have HJ1 := Lib.hid hj1
        have HJ2 := Lib.hid hj2
        clear hj1 hj2 ho5 hg5 hb45 hin5
        go_wp2_with fail
        refine (HJ1.out).mono ?_
        rintro e w6 ⟨rfl, hb6⟩
        have HB6 := Lib.hid hb6
        clear hb6
        go_wp2_with fail
        refine (HJ2.out _ (HOW5.out.below HB6.out (Nat.le_refl _)) HB6.out.size).mono ?_
        rintro e w7 ⟨rfl, hb7⟩
        have HB7 := Lib.hid (HB6.out.trans (hb7.mono HB6.out.size))
        clear hb7
        go_wp2_with fail
        refine (same_rd L _ _ _ _ _ (HIN5.out.below HB7.out (Nat.le_refl _)) (HOW5.out.below HB7.out (Nat.le_refl _)) (by omega)).mono ?_
        rintro e w8 ⟨rfl, hb8⟩
        have HB8 := Lib.hid (HBE5.out.trans ((HB7.out.trans (hb8.mono HB7.out.size)).mono HBE5.out.size))
        clear hb8
        go_wp2_with fail
        refine (lexWorks_any _ (HE.out.below HB8.out)).mono ?_
        rintro e w9 ⟨rfl, hb9⟩
        have HB9 := Lib.hid (HB8.out.trans (hb9.mono HB8.out.size))
        clear hb9
        go_wp2_with fail
        go_ret
        exact ⟨rfl, HB9.out⟩
end Go.Proofs.YtoineheocipmaaaDoor
