/-
  tree: do a message's fields stand where they say: the walk.
-/
import Derived.Test.YthmdaejlopjjoaaGreatDoorPlA
import Derived.Test.YthmdaejlopjjoaaGreatDoorShC
namespace Go.Proofs.YthmdaejlopjjoaaGreatDoor
open Go.RowKit
set_option linter.unusedVariables false
set_option linter.unusedSimpArgs false

theorem index_fst : ∀ l : List UInt8, (Lib.index l [46] = -1 ∧ fstL l = l) ∨ ∃ i : Nat, Lib.index l [46] = i ∧ l.take i = fstL l
  | [] => .inl ⟨rfl, rfl⟩
  | b :: l => by
    rw [Lib.index]
    unfold fstL
    by_cases hb : b = 46
    · subst hb
      exact .inr ⟨0, by simp [List.isPrefixOf], by simp⟩
    · have h1 : [46].isPrefixOf (b :: l) = false := by simp [List.isPrefixOf, Ne.symm hb]
      rw [if_neg (by rw [h1]; decide)]
      have h2 : (b != 46) = true := by simpa using hb
      rw [List.takeWhile_cons, if_pos h2]
      rcases index_fst l with ⟨e1, e2⟩ | ⟨i, e1, e2⟩
      · rw [e1]
        exact .inl ⟨rfl, by unfold fstL at e2; rw [e2]⟩
      · rw [e1]
        refine .inr ⟨i + 1, ?_, ?_⟩
        · rw [if_neg (by simp)]; omega
        · unfold fstL at e2
          rw [List.take_succ_cons, e2]
theorem cut_fst (l : List UInt8) : (Lib.cut l [46]).1 = fstL l := by
  unfold Lib.cut
  rcases index_fst l with ⟨e1, e2⟩ | ⟨i, e1, e2⟩
  · rw [e1, if_neg (by decide)]; exact e2.symm
  · rw [e1, if_pos (by omega)]; simpa using e2
theorem MemL.at_ {α : Type} {w : World} {B k : Nat} {f : α → List Dv} (hk : ∀ a, (f a).length = k) : ∀ {l : List α} {xs : List Value} {F : List Nat} (i : Nat) (hi : i < l.length), MemL w B (l.flatMap f) xs F → ∃ ys G, MemL w B (f l[i]) ys G ∧ ∀ j, j < k → xs[i * k + j]? = ys[j]?
  | x :: l, xs, F, 0, hi, h => by
    rw [List.flatMap_cons] at h
    obtain ⟨x1, x2, F1, F2, rfl, rfl, h1, h2⟩ := MemL.split h
    refine ⟨x1, F1, h1, fun j hj => ?_⟩
    rw [Nat.zero_mul, Nat.zero_add, List.getElem?_append_left (by rw [MemL.len h1, hk]; exact hj)]
  | x :: l, xs, F, i + 1, hi, h => by
    rw [List.flatMap_cons] at h
    obtain ⟨x1, x2, F1, F2, rfl, rfl, h1, h2⟩ := MemL.split h
    obtain ⟨ys, G, g1, g2⟩ := MemL.at_ hk i (by simpa using hi) h2
    refine ⟨ys, G, g1, fun j hj => ?_⟩
    have hl : x1.length = k := by rw [MemL.len h1, hk]
    rw [List.getElem?_append_right (by rw [hl, Nat.add_mul]; omega), hl, ← g2 j hj]
    congr 1
    rw [Nat.add_mul]; omega
theorem flat_len {α : Type} {k : Nat} {f : α → List Dv} (hk : ∀ a, (f a).length = k) : ∀ l : List α, (l.flatMap f).length = l.length * k
  | [] => by simp
  | x :: l => by rw [List.flatMap_cons, List.length_append, flat_len hk l, hk, List.length_cons, Nat.add_mul]; omega
theorem Fd.ten' {w : World} {B : Nat} {x : Fd} {xs : List Value} {F : List Nat} (h : MemL w B (Fd.dv x) xs F) : xs = [.string x.name, .string x.typ, .string x.key, .string x.json, .int .i64 x.card, .int .i64 x.num, .int .i64 x.oneof, .int .i64 x.at_, .int .i64 x.tat, .int .i64 x.nat_] := Fd.ten (B := B) (F := F) (by simpa using h)
theorem Mem.sl_len {w : World} {B t k n : Nat} {cs : List Dv} {v : Value} {F : List Nat} (h : Mem w B (.sl t k n cs) v F) : n ≤ maxLen := by
  cases h with
  | sl _ _ _ _ _ xs G h hc =>
    rcases h.2 with ⟨rfl, h0⟩ | ⟨g, cap, cur, rfl, h1, h2, h3, h4, h5⟩
    · omega
    · omega
theorem Tx.two {w : World} {B : Nat} {x : Tx} {xs : List Value} {F : List Nat} (h : MemL w B (Tx.dv x) xs F) : xs = [.string x.s, .int .i64 x.at_] := by
  cases h with
  | cons d v F ds vs G h0 h =>
  cases h with
  | cons d v F ds vs G h1 h =>
  cases h with
  | nil =>
  rw [h0.val_at, h1.val_at]
theorem txs_at {w : World} {B : Nat} {l : List Tx} {A : Option Addr} {c : Nat} {F : List Nat} (h : Mem w B (lsD 99 2 Tx.dv l) (.slice A l.length c) F) {i : Nat} (hi : i < l.length) :
    ∃ g, A = some ⟨g, 0, none⟩ ∧ ∀ j, j < 2 → w.cell? ⟨g, i * 2 + j, none⟩ = (let x := l[i]; ([.string x.s, .int .i64 x.at_] : List Value))[j]? := by
  obtain ⟨g, cap, xs, F', e, hg, hml, hc⟩ := h.cells (by omega)
  injection e with e1 e2 e3
  refine ⟨g, e1, fun j hj => ?_⟩
  obtain ⟨ys, G, h1, h2⟩ := MemL.at_ (k := 2) (fun a => rfl) i hi hml
  have hl : xs.length = l.length * 2 := by rw [MemL.len hml]; exact flat_len (k := 2) (f := Tx.dv) (fun a => rfl) l
  rw [hc _ (by omega), h2 j hj, Tx.two h1]
theorem msgs_at {w : World} {B : Nat} {l : List Ms} {A : Option Addr} {c : Nat} {F : List Nat} (h : Mem w B (.sl 49 8 l.length (msL Ty0 l)) (.slice A l.length c) F) {i : Nat} (hi : i < l.length) :
    ∃ g ys G, A = some ⟨g, 0, none⟩ ∧ MemL w B (Ms.dv Ty0 l[i]) ys G ∧ ∀ j, j < 8 → w.cell? ⟨g, i * 8 + j, none⟩ = ys[j]? := by
  obtain ⟨g, cap, xs, F', e, hg, hml, hc⟩ := h.cells (by omega)
  rw [msL_eq] at hml
  have hk : ∀ a : Ms, (Ms.dv Ty0 a).length = 8 := fun ⟨_, _, _, _, _, _, _, _⟩ => by unfold Ms.dv; rfl
  injection e with e1 e2 e3
  obtain ⟨ys, G, h1, h2⟩ := MemL.at_ (k := 8) hk i hi hml
  refine ⟨g, ys, G, e1, h1, fun j hj => ?_⟩
  have hl : xs.length = l.length * 8 := by rw [MemL.len hml]; exact flat_len hk l
  rw [hc _ (by omega), h2 j hj]
theorem Ms.rows {w : World} {B : Nat} {x : Ms} {v0 v1 v2 v3 v4 v5 v6 v7 : Value} {F : List Nat} (h : MemL w B (Ms.dv Ty0 x) [v0, v1, v2, v3, v4, v5, v6, v7] F) : ∃ F4 F7, Mem w B (.sl 49 8 x.msgs.length (msL Ty0 x.msgs)) v4 F4 ∧ Mem w B (lsD 99 2 Tx.dv x.nams) v7 F7 := by
  obtain ⟨name, at_, flds, onos, msgs, enums, rngs, nams⟩ := x
  unfold Ms.dv at h
  cases h with
  | cons d v0 F ds vs G h0 h =>
  cases h with
  | cons d v1 F ds vs G h1 h =>
  cases h with
  | cons d v2 F ds vs G h2 h =>
  cases h with
  | cons d v3 F ds vs G h3 h =>
  cases h with
  | cons d v4 F ds vs G h4 h =>
  cases h with
  | cons d v5 F ds vs G h5 h =>
  cases h with
  | cons d v6 F ds vs G h6 h =>
  cases h with
  | cons d v7 F ds vs G h7 h =>
  exact ⟨_, _, h4, h7⟩
/-- A field's cells in its row. -/
theorem flds_at {w : World} {B : Nat} {l : List Fd} {A : Option Addr} {c : Nat} {F : List Nat} (h : Mem w B (lsD 97 10 Fd.dv l) (.slice A l.length c) F) {i : Nat} (hi : i < l.length) :
    ∃ g, A = some ⟨g, 0, none⟩ ∧ ∀ j, j < 10 → w.cell? ⟨g, i * 10 + j, none⟩ = (let x := l[i]; ([.string x.name, .string x.typ, .string x.key, .string x.json, .int .i64 x.card, .int .i64 x.num, .int .i64 x.oneof, .int .i64 x.at_, .int .i64 x.tat, .int .i64 x.nat_] : List Value))[j]? := by
  obtain ⟨g, cap, xs, F', e, hg, hml, hc⟩ := h.cells (by omega)
  injection e with e1 e2 e3
  refine ⟨g, e1, fun j hj => ?_⟩
  obtain ⟨ys, G, h1, h2⟩ := MemL.at_ (k := 10) (fun a => rfl) i hi hml
  have hl : xs.length = l.length * 10 := by rw [MemL.len hml]; exact flat_len (k := 10) (f := Fd.dv) (fun a => rfl) l
  rw [hc _ (by omega), h2 j hj, Fd.ten' h1]
set_option maxRecDepth 100000 in
set_option maxHeartbeats 4000000 in
theorem fields_step (s : ByteArray) (hs : s.size ≤ 65536) (w : World) (hE : Env w) (m : Ms) (B : Nat) (vs : List Value) (F : List Nat) (fr : Int) (hm : MemL w B (Ms.dv Ty0 m) vs F) (ha : MsAt s m) (hf : fr < m.at_)
    (hsub : ∀ x ∈ m.msgs, ∀ (w : World) (vs : List Value) (F : List Nat) (fr : Int), Env w → MemL w B (Ms.dv Ty0 x) vs F → fr < x.at_ → Calls Tryz.prog 23 #[.string s, .agg vs.toArray, .int .i64 fr] w fun e w' => e = .returned (.bool true) ∧ Kn w w') :
    Calls Tryz.prog 23 #[.string s, .agg vs.toArray, .int .i64 fr] w fun e w' => e = .returned (.bool true) ∧ Kn w w' := by
  obtain ⟨v2, F2, A3, c3, A4, c4, A5, c5, A6, c6, A7, c7, rfl, hfl⟩ := Ms.eight hm
  obtain ⟨A2, c2, rfl⟩ := hfl.val_sl
  obtain ⟨_, nm, ⟨n, fl⟩, qu, up, sub⟩ := ha
  obtain ⟨F4, F7, hr4, hr7⟩ := Ms.rows hm
  have HR4 := Lib.hid hr4
  have HR7 := Lib.hid hr7
  have HSUB := Lib.hid hsub
  have HQU := Lib.hid qu
  have HUPM := Lib.hid up
  clear hr4 hr7 hsub qu up sub
  have HM := Lib.hid hm
  have HE := Lib.hid hE
  have HFL := Lib.hid hfl
  have HB := Lib.hid (Blk.new w 49 #[.string m.name, .int .i64 m.at_, .slice A2 m.flds.length c2, .slice A3 m.onos.length c3, .slice A4 m.msgs.length c4, .slice A5 m.enums.length c5, .slice A6 m.rngs.length c6, .slice A7 m.nams.length c7])
  have HK := Lib.hid ((Kp.refl (fun _ => False) w).alloc (.cells #[.string m.name, .int .i64 m.at_, .slice A2 m.flds.length c2, .slice A3 m.onos.length c3, .slice A4 m.msgs.length c4, .slice A5 m.enums.length c5, .slice A6 m.rngs.length c6, .slice A7 m.nams.length c7] 49))
  clear hm hE hfl
  go_enter Tryz.func23, Tryz.ntmps23
  go_wp2_with fail
  refine (starts_any s _ _ _ (by omega)).mono ?_
  rintro e w1 ⟨rfl, rfl⟩
  rw [nm]
  go_wp2_with fail
  generalize World.alloc w _ = w0 at *
  have FL := Lib.hid fl
  generalize hb : w.heap.size = b at *
  clear hb fl
  go_loopg [7, 8] m.flds.length (fun g v7 v8 wr => ∃ (i : Nat) (la : Int), i ≤ m.flds.length ∧ g = m.flds.length - i ∧ v8 = .int .i64 i ∧ v7 = .int .i64 la ∧ FdUp s la (m.flds.drop i) n ∧ Kn w wr ∧ Blk wr b 49 #[.string m.name, .int .i64 m.at_, .slice A2 m.flds.length c2, .slice A3 m.onos.length c3, .slice A4 m.msgs.length c4, .slice A5 m.enums.length c5, .slice A6 m.rngs.length c6, .slice A7 m.nams.length c7])
  case atStart => exact ⟨0, m.at_, Nat.zero_le _, rfl, rfl, rfl, FL.out, HK.out, HB.out⟩
  case round =>
    obtain ⟨i, la, hi, rfl, rfl, rfl, hup, hkr, hbr⟩ := hrel
    have HKR := Lib.hid hkr
    have HBR := Lib.hid hbr
    have HUP := Lib.hid hup
    have c2' := hbr.cell 2
    simp only [List.getElem?_toArray, List.getElem?_cons_zero, List.getElem?_cons_succ] at c2'
    clear hkr hbr hup FL HK HB
    by_cases hil : i < m.flds.length
    · obtain ⟨g, rfl, hcell⟩ := flds_at (Mem.stays HFL.out fun g hg => HKR.out.block g (Mem.lt HFL.out g hg).2 (fun f => f)) hil
      generalize hx : m.flds[i] = x at *
      have hd : m.flds.drop i = x :: m.flds.drop (i + 1) := by rw [List.drop_eq_getElem_cons hil, hx]
      have HUP2 := Lib.hid (show FdAt s la x ∧ FdUp s x.nat_ (m.flds.drop (i + 1)) n by have := HUP.out; rw [hd] at this; exact this)
      have r0 := hcell 0 (by decide)
      have r1 := hcell 1 (by decide)
      have r2 := hcell 2 (by decide)
      have r3 := hcell 3 (by decide)
      have r4 := hcell 4 (by decide)
      have r5 := hcell 5 (by decide)
      have r6 := hcell 6 (by decide)
      have r7 := hcell 7 (by decide)
      have r8 := hcell 8 (by decide)
      have r9 := hcell 9 (by decide)
      simp only [List.getElem?_cons_zero, List.getElem?_cons_succ, Nat.add_zero] at r0 r1 r2 r3 r4 r5 r6 r7 r8 r9
      clear hcell hd HUP
      have hil' : (i : Int) < (m.flds.length : Int) := by omega
      have hil2 : (m.flds.length : Int) ≤ 9223372036854775807 := by have := HFL.out.sl_len; unfold maxLen at this; omega
      have hEw := HE.out.below (Kp.to_below (HKR.out.alloc (.cells #[.string x.name, .string x.typ, .string x.key, .string x.json, .int .i64 x.card, .int .i64 x.num, .int .i64 x.oneof, .int .i64 x.at_, .int .i64 x.tat, .int .i64 x.nat_] 97)) (fun k f => f.elim) (Nat.le_refl _))
      obtain ⟨mm, hmm⟩ := hEw.m
      have HMM := Lib.hid hmm
      clear hEw hmm
      obtain ⟨ft, hft⟩ : ∃ ft : ByteArray, ft = ⟨(Lib.cut (Lib.trimPrefix (if x.card = 4 then x.key else x.typ).data.toList [46]) [46]).1.toArray⟩ := ⟨_, rfl⟩
      have hty : startsB s x.tat kDot = true ∨ startsB s x.tat ft = true := by
        rcases HUP2.out.1.t.2 with e | ⟨e1, e2⟩
        · exact .inl e
        · right
          rw [hft, show Lib.trimPrefix (if x.card = 4 then x.key else x.typ).data.toList [46] = (if x.card = 4 then x.key else x.typ).data.toList from by unfold Lib.trimPrefix; rw [e1]; rfl, cut_fst]
          exact e2
      have HFT := Lib.hid hft
      have HTY := Lib.hid hty
      have HSZ := Lib.hid HUP2.out.1.t.1
      have hnm := HUP2.out.1.nm
      have ha1 := HUP2.out.1.a
      have ha2 := HUP2.out.1.b
      have ha3 := HUP2.out.1.c
      have HUP3 := Lib.hid HUP2.out.2
      clear hft hty HUP2
      go_wp2_with fail
      refine (Tryz.strings_TrimPrefix _ _ _).mono ?_
      rintro e w2 ⟨rfl, rfl⟩
      by_cases hcd : x.card = 4
      · go_wp2_with fail
        refine (Tryz.strings_TrimPrefix _ _ _).mono ?_
        rintro e w2 ⟨rfl, rfl⟩
        have HFT2 := Lib.hid (show ft = ⟨(Lib.cut (Lib.trimPrefix x.key.data.toList [46]) [46]).1.toArray⟩ by rw [HFT.out, if_pos hcd])
        have hz0 : x.key.size ≤ 128 := by have := HSZ.out; rwa [if_pos hcd] at this
        have hz : (⟨(Lib.trimPrefix x.key.data.toList [46]).toArray⟩ : ByteArray).size < 4294967281 := by
          have h1 : (Lib.trimPrefix x.key.data.toList [46]).length ≤ x.key.size := by
            unfold Lib.trimPrefix
            split
            · simp
            · simp
          show (Lib.trimPrefix x.key.data.toList [46]).toArray.size < _
          simp only [List.size_toArray]
          omega
        have HZ := Lib.hid hz
        clear hz hz0
        simp only [hcd] at HMM
        go_wp2_with fail
        refine (Tryz.strings_Cut _ _ mm _ HZ.out HMM.out).mono ?_
        rintro e w2 ⟨rfl, nd, rfl⟩
        simp only [show (⟨#[46]⟩ : ByteArray).data.toList = [46] from rfl, ← HFT2.out]
        go_wp2_with fail
        refine (starts_any s _ _ _ (by omega)).mono ?_
        rintro e w3 ⟨rfl, rfl⟩
        rw [hnm]
        go_wp2_with fail
        refine (starts_any s _ _ _ (by omega)).mono ?_
        rintro e w3 ⟨rfl, rfl⟩
        have hno1 : ¬ x.tat ≤ la := by omega
        have hno2 : ¬ x.at_ ≤ x.tat := by omega
        have hno3 : ¬ x.nat_ ≤ x.at_ := by omega
        cases hb1 : startsB s x.tat ft
        · have hdot : startsB s x.tat kDot = true := by
            rcases HTY.out with e | e
            · exact e
            · rw [hb1] at e; cases e
          go_wp2_with fail
          refine (starts_any s _ _ _ (by omega)).mono ?_
          rintro e w3 ⟨rfl, rfl⟩
          simp only [hdot]
          go_wp2_with fail
          go_roundg (m.flds.length - (i + 1))
          case measure => omega
          case rel => exact ⟨i + 1, x.nat_, by omega, rfl, by go_num, rfl, HUP3.out, (HKR.out.alloc _).drewN _, (HBR.out.alloc _).drewN _⟩
        · go_wp2_with fail
          go_roundg (m.flds.length - (i + 1))
          case measure => omega
          case rel => exact ⟨i + 1, x.nat_, by omega, rfl, by go_num, rfl, HUP3.out, (HKR.out.alloc _).drewN _, (HBR.out.alloc _).drewN _⟩
      · go_wp2_with fail
        have HFT2 := Lib.hid (show ft = ⟨(Lib.cut (Lib.trimPrefix x.typ.data.toList [46]) [46]).1.toArray⟩ by rw [HFT.out, if_neg hcd])
        have hz0 : x.typ.size ≤ 128 := by have := HSZ.out; rwa [if_neg hcd] at this
        have hz : (⟨(Lib.trimPrefix x.typ.data.toList [46]).toArray⟩ : ByteArray).size < 4294967281 := by
          have h1 : (Lib.trimPrefix x.typ.data.toList [46]).length ≤ x.typ.size := by
            unfold Lib.trimPrefix
            split
            · simp
            · simp
          show (Lib.trimPrefix x.typ.data.toList [46]).toArray.size < _
          simp only [List.size_toArray]
          omega
        have HZ := Lib.hid hz
        clear hz hz0
        refine (Tryz.strings_Cut _ _ mm _ HZ.out HMM.out).mono ?_
        rintro e w2 ⟨rfl, nd, rfl⟩
        simp only [show (⟨#[46]⟩ : ByteArray).data.toList = [46] from rfl, ← HFT2.out]
        go_wp2_with fail
        refine (starts_any s _ _ _ (by omega)).mono ?_
        rintro e w3 ⟨rfl, rfl⟩
        rw [hnm]
        go_wp2_with fail
        refine (starts_any s _ _ _ (by omega)).mono ?_
        rintro e w3 ⟨rfl, rfl⟩
        have hno1 : ¬ x.tat ≤ la := by omega
        have hno2 : ¬ x.at_ ≤ x.tat := by omega
        have hno3 : ¬ x.nat_ ≤ x.at_ := by omega
        cases hb1 : startsB s x.tat ft
        · have hdot : startsB s x.tat kDot = true := by
            rcases HTY.out with e | e
            · exact e
            · rw [hb1] at e; cases e
          go_wp2_with fail
          refine (starts_any s _ _ _ (by omega)).mono ?_
          rintro e w3 ⟨rfl, rfl⟩
          simp only [hdot]
          go_wp2_with fail
          go_roundg (m.flds.length - (i + 1))
          case measure => omega
          case rel => exact ⟨i + 1, x.nat_, by omega, rfl, by go_num, rfl, HUP3.out, (HKR.out.alloc _).drewN _, (HBR.out.alloc _).drewN _⟩
        · go_wp2_with fail
          go_roundg (m.flds.length - (i + 1))
          case measure => omega
          case rel => exact ⟨i + 1, x.nat_, by omega, rfl, by go_num, rfl, HUP3.out, (HKR.out.alloc _).drewN _, (HBR.out.alloc _).drewN _⟩
    · go_wp2_with fail
      clear c2'
      go_loopg [11] m.nams.length (fun g v wr2 => ∃ k : Nat, k ≤ m.nams.length ∧ g = m.nams.length - k ∧ v = .int .i64 k ∧ Kn w wr2 ∧ Blk wr2 b 49 #[.string m.name, .int .i64 m.at_, .slice A2 m.flds.length c2, .slice A3 m.onos.length c3, .slice A4 m.msgs.length c4, .slice A5 m.enums.length c5, .slice A6 m.rngs.length c6, .slice A7 m.nams.length c7])
      case atStart => exact ⟨0, Nat.zero_le _, rfl, rfl, HKR.out, HBR.out⟩
      case round =>
        obtain ⟨k, hk, rfl, rfl, hkr, hbr⟩ := hrel
        clear HKR HBR
        have HKR := Lib.hid hkr
        have HBR := Lib.hid hbr
        have c7' := hbr.cell 7
        simp only [List.getElem?_toArray, List.getElem?_cons_zero, List.getElem?_cons_succ] at c7'
        clear hkr hbr
        by_cases hkl : k < m.nams.length
        · obtain ⟨g, rfl, hcell⟩ := txs_at (Mem.stays HR7.out fun g hg => HKR.out.block g (Mem.lt HR7.out g hg).2 (fun f => f)) hkl
          have hqx := HQU.out m.nams[k] (List.getElem_mem hkl)
          generalize hx : m.nams[k] = x at *
          have r1 := hcell 1 (by decide)
          simp only [List.getElem?_cons_zero, List.getElem?_cons_succ] at r1
          clear hcell
          have hkl' : (k : Int) < (m.nams.length : Int) := by omega
          have hkl2 : (m.nams.length : Int) ≤ 9223372036854775807 := by have := HR7.out.sl_len; unfold maxLen at this; omega
          have HQX := Lib.hid hqx
          clear hqx
          go_wp2_with fail
          refine (starts_any s _ _ _ (by omega)).mono ?_
          rintro e w3 ⟨rfl, rfl⟩
          cases hb1 : startsB s x.at_ ⟨#[34]⟩
          · have hb2 : startsB s x.at_ ⟨#[39]⟩ = true := by
              have := HQX.out
              unfold quoteAt at this
              rw [hb1] at this
              simpa using this
            go_wp2_with fail
            refine (starts_any s _ _ _ (by omega)).mono ?_
            rintro e w3 ⟨rfl, rfl⟩
            simp only [hb2]
            go_wp2_with fail
            go_roundg (m.nams.length - (k + 1))
            case measure => omega
            case rel => exact ⟨k + 1, by omega, rfl, by go_num, HKR.out, HBR.out⟩
          · go_wp2_with fail
            go_roundg (m.nams.length - (k + 1))
            case measure => omega
            case rel => exact ⟨k + 1, by omega, rfl, by go_num, HKR.out, HBR.out⟩
        · go_wp2_with fail
          clear c7'
          go_loopg [12] m.msgs.length (fun g v wr3 => ∃ k : Nat, k ≤ m.msgs.length ∧ g = m.msgs.length - k ∧ v = .int .i64 k ∧ Kn w wr3 ∧ Blk wr3 b 49 #[.string m.name, .int .i64 m.at_, .slice A2 m.flds.length c2, .slice A3 m.onos.length c3, .slice A4 m.msgs.length c4, .slice A5 m.enums.length c5, .slice A6 m.rngs.length c6, .slice A7 m.nams.length c7])
          case atStart => exact ⟨0, Nat.zero_le _, rfl, rfl, HKR.out, HBR.out⟩
          case round =>
            obtain ⟨k, hk, rfl, rfl, hkr, hbr⟩ := hrel
            clear HKR HBR
            have HKR := Lib.hid hkr
            have HBR := Lib.hid hbr
            have c4' := hbr.cell 4
            have c1' := hbr.cell 1
            simp only [List.getElem?_toArray, List.getElem?_cons_zero, List.getElem?_cons_succ] at c4' c1'
            clear hkr hbr
            by_cases hkl : k < m.msgs.length
            · obtain ⟨g, ys, G, rfl, hml, hcell⟩ := msgs_at (Mem.stays HR4.out fun g hg => HKR.out.block g (Mem.lt HR4.out g hg).2 (fun f => f)) hkl
              have hmem := List.getElem_mem hkl
              have hup' := HUPM.out m.msgs[k] hmem
              have hsb := HSUB.out m.msgs[k] hmem
              obtain ⟨y2, G2, B3, d3, B4, d4, B5, d5, B6, d6, B7, d7, rfl, hfl2⟩ := Ms.eight hml
              obtain ⟨B2, d2, rfl⟩ := hfl2.val_sl
              generalize hx : m.msgs[k] = x at *
              have r0 := hcell 0 (by decide)
              have r1 := hcell 1 (by decide)
              have r2 := hcell 2 (by decide)
              have r3 := hcell 3 (by decide)
              have r4 := hcell 4 (by decide)
              have r5 := hcell 5 (by decide)
              have r6 := hcell 6 (by decide)
              have r7 := hcell 7 (by decide)
              simp only [List.getElem?_cons_zero, List.getElem?_cons_succ, Nat.add_zero] at r0 r1 r2 r3 r4 r5 r6 r7
              clear hcell hfl2 hmem
              have hkl' : (k : Int) < (m.msgs.length : Int) := by omega
              have hkl2 : (m.msgs.length : Int) ≤ 9223372036854775807 := by have := HR4.out.sl_len; unfold maxLen at this; omega
              have HC := Lib.hid (hsb _ _ _ m.at_ (HE.out.below (Kp.to_below HKR.out.drew (fun k f => f.elim) (Nat.le_refl _))) (MemL.stays hml fun g hg => rfl) hup')
              clear hml hsb hup'
              go_wp2_with fail
              go_still_tail 8, (by kernel_rfl)
              change wpList _ _ _ _ _ (World.drew _)
              go_wp2_with fail
              refine HC.out.mono ?_
              rintro e w3 ⟨rfl, hk3⟩
              have HK3 := Lib.hid ((Kp.refl _ _).drew.trans hk3)
              clear hk3
              go_wp2_with fail
              go_roundg (m.msgs.length - (k + 1))
              case measure => omega
              case rel => exact ⟨k + 1, by omega, rfl, by go_num, HKR.out.trans HK3.out, HBR.out.kp HK3.out (fun f => f)⟩
            · go_wp2_with fail
              refine bodyPost_ret (v := .bool true) (by simp [results, Tryz.results23, go_sem]) rfl ⟨rfl, HKR.out⟩
/-- Of whatever message stands where it says. -/
theorem fields_any (s : ByteArray) (hs : s.size ≤ 65536) (B : Nat) {m : Ms} (ha : MsAt s m) : ∀ (w : World) (vs : List Value) (F : List Nat) (fr : Int), Env w → MemL w B (Ms.dv Ty0 m) vs F → fr < m.at_ → Calls Tryz.prog 23 #[.string s, .agg vs.toArray, .int .i64 fr] w fun e w' => e = .returned (.bool true) ∧ Kn w w' := by
  induction ha with
  | mk m nm fl qu up sub ih => exact fun w vs F fr hE hm hf => fields_step s hs w hE m B vs F fr hm ⟨m, nm, fl, qu, up, sub⟩ hf ih
end Go.Proofs.YthmdaejlopjjoaaGreatDoor
