/-
  tree: Parse: what it answers for any text.
  tree: the chapter's texts.
  tree: where something begins.
-/
import Derived.Test.YthmdaejlopjjoaaGreatDoorTrG3
import Derived.Test.YthmdaejlopjjoaaGreatDoorTrG2
import Derived.Test.YthmdaejlopjjoaaGreatDoorTrA
namespace Go.Proofs.YthmdaejlopjjoaaGreatDoor
section
open Go.RowKit
set_option linter.unusedVariables false
set_option linter.unusedSimpArgs false

theorem ext_all : Ext where
  ident := fun s W hs => (isIdent_any s W (by unfold maxLen; omega)).mono fun e W' h => ⟨h.1, h.2 ▸ Kp.refl _ W⟩
  path := fun s W hs => (isPath_any s W (by omega)).mono fun e W' h => ⟨h.1, h.2 ▸ Kp.refl _ W⟩
/-- What Parse answers. -/
def parseR (s : ByteArray) : Pz Tr := if (wordsR s).e ≠ 0 then .no (wordsR s).at_ (wordsR s).e else fileP dnK (wordsR s).l
theorem parse_any (s : ByteArray) (w : World) (hE : Env w) (hs : s.size ≤ 1000000) : Calls Tryz.prog 22 #[.string s] w (ParseP w (parseR s)) := by
  refine parse_core ext_all s w (wordsR s).at_ (wordsR s).e (wordsR s).l (fun h => ?_) ?_
  · obtain ⟨h1, h2⟩ := words_gd h
    exact ⟨h1, by omega⟩
  · have hb : Below w.heap.size w (((w.alloc (.cells #[.string ⟨#[]⟩, .slice none 0 0, .slice none 0 0, .slice none 0 0, .slice none 0 0] 27)).alloc (.cells #[.int .i64 0] 3)).alloc (.cells #[.int .i64 0] 28)) := (((Below.refl _ w).alloc (Nat.le_refl _) _).alloc (by simp) _).alloc (by simp; omega) _
    refine (words_any s _ (hE.below hb) hs).mono ?_
    rintro e w' ⟨v, rfl, h1, h2⟩
    exact ⟨v, rfl, h1, h2⟩
end
section
open Go.RowKit
set_option linter.unusedVariables false
set_option linter.unusedSimpArgs false

set_option maxRecDepth 100000 in
set_option maxHeartbeats 1000000 in
theorem fails_any (s : ByteArray) (p c : Nat) (w : World) (hE : Env w) (hs : s.size ≤ 1000000) (h : parseR s = .no p c) : Calls Tryz.prog 28 #[.string s, .int .i64 p, .int .i64 c] w fun e w' => e = .returned (.bool true) ∧ Below w.heap.size w w' := by
  have HC := Lib.hid (parse_any s w hE hs)
  rw [h] at HC
  clear hE h
  go_enter Tryz.func28, Tryz.ntmps28
  go_wp2_with fail
  refine (HC.out).mono ?_
  rintro e w1 ⟨rfl, hb⟩
  have HB := Lib.hid (hb.alloc hb.size (.cells #[.string ⟨#[]⟩, .slice none 0 0, .slice none 0 0, .slice none 0 0, .slice none 0 0] 27))
  clear hb HC
  go_wp2_with fail
  refine bodyPost_ret (v := .bool true) (by simp [results, Tryz.results28, go_sem]) rfl ⟨rfl, HB.out⟩
/-- A row in memory: its elements' cells. -/
theorem Mem.cells {w : World} {B t k n : Nat} {cs : List Dv} {v : Value} {F : List Nat} (h : Mem w B (.sl t k n cs) v F) (h0 : n ≠ 0) :
    ∃ g cap xs F', v = .slice (some ⟨g, 0, none⟩) n cap ∧ B ≤ g ∧ MemL w B cs xs F' ∧ ∀ i, i < xs.length → w.cell? ⟨g, i, none⟩ = xs[i]? := by
  cases h with
  | sl _ _ _ _ _ xs G h hc =>
    rcases h.2 with ⟨rfl, h0'⟩ | ⟨g, cap, cur, rfl, h1, h2, h3, h4, h5, h6⟩
    · exact absurd h0' h0
    · refine ⟨g, cap, xs, G, rfl, h1, hc, fun i hi => ?_⟩
      have h8 := h.1
      rw [show w.cell? ⟨g, i, none⟩ = cur[i]? from Blk.cell h2 i, ← h6, List.getElem?_take_of_lt (by omega), Array.getElem?_toList]
abbrev wt1 : ByteArray := ⟨#[115, 121, 110, 116, 97, 120, 32, 61, 32, 34, 112, 114, 111, 116, 111, 51, 34, 59, 32, 112, 97, 99, 107, 97, 103, 101, 32, 97, 46, 98, 59, 32, 105, 109, 112, 111, 114, 116, 32, 112, 117, 98, 108, 105, 99, 32, 34, 120, 46, 112, 114, 111, 116, 111, 34, 59]⟩
abbrev wx1 : Tr := ⟨⟨#[97, 46, 98]⟩, [⟨⟨#[120, 46, 112, 114, 111, 116, 111]⟩, true, 46⟩], [], [], []⟩
theorem works1 : ∃ l, parseR wt1 = .ok wx1 l := ⟨(match parseR wt1 with | .ok _ l => l | .no .. => []), by kernel_rfl⟩
abbrev wt2 : ByteArray := ⟨#[115, 121, 110, 116, 97, 120, 61, 34, 112, 114, 111, 116, 111, 51, 34, 59, 109, 101, 115, 115, 97, 103, 101, 32, 77, 123, 111, 112, 116, 105, 111, 110, 97, 108, 32, 105, 110, 116, 51, 50, 32, 97, 61, 49, 91, 106, 115, 111, 110, 95, 110, 97, 109, 101, 61, 34, 107, 34, 93, 59, 125]⟩
abbrev wf2 : Fd := ⟨⟨#[97]⟩, ⟨#[105, 110, 116, 51, 50]⟩, ⟨#[]⟩, ⟨#[107]⟩, 2, 1, -1, 41, 35, 43⟩
abbrev wx2 : Tr := ⟨⟨#[]⟩, [], [⟨⟨#[77]⟩, 24, [wf2], [], [], [], [], []⟩], [], []⟩
theorem works2 : ∃ l, parseR wt2 = .ok wx2 l := ⟨(match parseR wt2 with | .ok _ l => l | .no .. => []), by kernel_rfl⟩
abbrev wt3 : ByteArray := ⟨#[115, 121, 110, 116, 97, 120, 61, 34, 112, 114, 111, 116, 111, 51, 34, 59, 109, 101, 115, 115, 97, 103, 101, 32, 77, 123, 105, 110, 116, 51, 50, 32, 97, 61, 49, 59, 109, 97, 112, 60, 115, 116, 114, 105, 110, 103, 44, 46, 98, 46, 78, 62, 99, 61, 50, 59, 111, 110, 101, 111, 102, 32, 111, 123, 69, 32, 100, 61, 51, 59, 125, 114, 101, 115, 101, 114, 118, 101, 100, 32, 53, 32, 116, 111, 32, 109, 97, 120, 44, 34, 120, 34, 59, 125]⟩
theorem works3 : parseR wt3 = .no 89 40 := by kernel_rfl
abbrev wt4 : ByteArray := ⟨#[115, 121, 110, 116, 97, 120, 61, 34, 112, 114, 111, 116, 111, 51, 34, 59, 101, 110, 117, 109, 32, 69, 123, 65, 61, 48, 59, 66, 61, 45, 53, 59, 114, 101, 115, 101, 114, 118, 101, 100, 32, 45, 57, 32, 116, 111, 32, 45, 55, 44, 109, 97, 120, 59, 125]⟩
theorem works4 : parseR wt4 = .no 50 40 := by kernel_rfl
abbrev wt5 : ByteArray := ⟨#[]⟩
theorem works5 : parseR wt5 = .no 0 40 := by kernel_rfl
abbrev wt6 : ByteArray := ⟨#[115, 121, 110, 116, 97, 120, 61, 34, 112, 114, 111, 116, 111, 50, 34, 59]⟩
theorem works6 : parseR wt6 = .no 7 40 := by kernel_rfl
def Dv.inner : Dv → List Dv
  | .sl _ _ _ cs => cs
  | _ => []
theorem Im.three {w : World} {B : Nat} {x : Im} {xs : List Value} {F : List Nat} (h : MemL w B ([x].flatMap Im.dv) xs F) : xs = [.string x.path, .bool x.pub, .int .i64 x.at_] := by
  cases h with
  | cons d v F ds vs G h0 h =>
  cases h with
  | cons d v F ds vs G h1 h =>
  cases h with
  | cons d v F ds vs G h2 h =>
  cases h with
  | nil =>
  rw [h0.val_at, h1.val_at, h2.val_at]
theorem Fd.ten {w : World} {B : Nat} {x : Fd} {xs : List Value} {F : List Nat} (h : MemL w B ([x].flatMap Fd.dv) xs F) : xs = [.string x.name, .string x.typ, .string x.key, .string x.json, .int .i64 x.card, .int .i64 x.num, .int .i64 x.oneof, .int .i64 x.at_, .int .i64 x.tat, .int .i64 x.nat_] := by
  cases h with
  | cons d v F ds vs G h0 h =>
  cases h with
  | cons d v F ds vs G h1 h =>
  cases h with
  | cons d v F ds vs G h2 h =>
  cases h with
  | cons d v F ds vs G h3 h =>
  cases h with
  | cons d v F ds vs G h4 h =>
  cases h with
  | cons d v F ds vs G h5 h =>
  cases h with
  | cons d v F ds vs G h6 h =>
  cases h with
  | cons d v F ds vs G h7 h =>
  cases h with
  | cons d v F ds vs G h8 h =>
  cases h with
  | cons d v F ds vs G h9 h =>
  cases h with
  | nil =>
  rw [h0.val_at, h1.val_at, h2.val_at, h3.val_at, h4.val_at, h5.val_at, h6.val_at, h7.val_at, h8.val_at, h9.val_at]
theorem Ms.eight {w : World} {B : Nat} {x : Ms} {xs : List Value} {F : List Nat} (h : MemL w B (Ms.dv Ty0 x) xs F) : ∃ v2 F2 A3 c3 A4 c4 A5 c5 A6 c6 A7 c7, xs = [.string x.name, .int .i64 x.at_, v2, .slice A3 x.onos.length c3, .slice A4 x.msgs.length c4, .slice A5 x.enums.length c5, .slice A6 x.rngs.length c6, .slice A7 x.nams.length c7] ∧ Mem w B (lsD 97 10 Fd.dv x.flds) v2 F2 := by
  obtain ⟨name, at_, flds, onos, msgs, enums, rngs, nams⟩ := x
  unfold Ms.dv at h
  cases h with
  | cons d v0 F ds vs G h0 h =>
  cases h with
  | cons d v1 F ds vs G h1 h =>
  cases h with
  | cons d v2 F ds vs G h2 h =>
  cases h with
  | cons d v3 F ds vs G h3 h =>
  cases h with
  | cons d v4 F ds vs G h4 h =>
  cases h with
  | cons d v5 F ds vs G h5 h =>
  cases h with
  | cons d v6 F ds vs G h6 h =>
  cases h with
  | cons d v7 F ds vs G h7 h =>
  cases h with
  | nil =>
  obtain ⟨A3, c3, rfl⟩ := h3.val_sl
  obtain ⟨A4, c4, rfl⟩ := h4.val_sl
  obtain ⟨A5, c5, rfl⟩ := h5.val_sl
  obtain ⟨A6, c6, rfl⟩ := h6.val_sl
  obtain ⟨A7, c7, rfl⟩ := h7.val_sl
  obtain rfl := h0.val_at
  obtain rfl := h1.val_at
  exact ⟨v2, _, A3, c3, A4, c4, A5, c5, A6, c6, A7, c7, rfl, h2⟩
set_option maxRecDepth 100000 in
set_option maxHeartbeats 1000000 in
theorem works_any (w : World) (hE : Env w) : Calls Tryz.prog 20 #[] w fun e w' => e = .returned (.bool true) ∧ Below w.heap.size w w' := by
  have HE := Lib.hid hE
  obtain ⟨l1, e1⟩ := works1
  have HC := Lib.hid (parse_any wt1 w hE (by decide))
  rw [e1] at HC
  clear hE
  go_enter Tryz.func20, Tryz.ntmps20
  go_wp2_with fail
  refine HC.out.mono ?_
  rintro e w1 ⟨vs, F, rfl, hm, hb⟩
  unfold Tr.dv at hm
  obtain ⟨vs⟩ := vs
  cases hm with
  | cons d v0 F ds vs G h0 hm =>
  cases hm with
  | cons d v1 F ds vs G h1 hm =>
  cases hm with
  | cons d v2 F ds vs G h2 hm =>
  cases hm with
  | cons d v3 F ds vs G h3 hm =>
  cases hm with
  | cons d v4 F ds vs G h4 hm =>
  cases hm with
  | nil =>
  obtain ⟨g, cap, xs, F', rfl, hg, hi, hc⟩ := h1.cells (by decide)
  obtain rfl := Im.three hi
  obtain rfl := h0.val_at
  obtain ⟨A2, c2, rfl⟩ := h2.val_sl
  obtain ⟨A3, c3, rfl⟩ := h3.val_sl
  obtain ⟨A4, c4, rfl⟩ := h4.val_sl
  have q0 := hc 0 (by decide)
  have q1 := hc 1 (by decide)
  have q2 := hc 2 (by decide)
  simp only [List.getElem?_cons_zero, List.getElem?_cons_succ] at q0 q1 q2
  clear hc hi h0 h1 h2 h3 h4
  have hlt := World.block_lt_of_cell? w1 _ q0
  have HB := Lib.hid hb
  clear hb
  go_wp2_with fail
  clear q0 q1 q2 hlt hg
  obtain ⟨l2, e2⟩ := works2
  have hb2 := HB.out.alloc HB.out.size (.cells #[.string ⟨#[97, 46, 98]⟩, .slice (some ⟨g, 0, none⟩) 1 cap, .slice A2 0 c2, .slice A3 0 c3, .slice A4 0 c4] 27)
  have HC2 := Lib.hid (parse_any wt2 _ (HE.out.below hb2) (by decide))
  rw [e2] at HC2
  refine HC2.out.mono ?_
  have HB2 := Lib.hid hb2
  clear hb2 HC HC2 HB
  generalize World.alloc w1 _ = w2 at *
  rintro e w3 ⟨vs, F, rfl, hm, hb⟩
  unfold Tr.dv at hm
  obtain ⟨vs⟩ := vs
  cases hm with
  | cons d v0 F ds vs G h0 hm =>
  cases hm with
  | cons d v1 F ds vs G h1 hm =>
  cases hm with
  | cons d v2 F ds vs G h2 hm =>
  cases hm with
  | cons d v3 F ds vs G h3 hm =>
  cases hm with
  | cons d v4 F ds vs G h4 hm =>
  cases hm with
  | nil =>
  obtain ⟨g1, cap1, xs, F', rfl, hg, hi, hc⟩ := h2.cells (by decide)
  obtain ⟨v9, F9, A3', c3', A4', c4', A5', c5', A6', c6', A7', c7', rfl, hf⟩ := Ms.eight (x := ⟨⟨#[77]⟩, 24, [wf2], [], [], [], [], []⟩) (by simpa using hi)
  obtain ⟨g2, cap2, xs, F', rfl, hg', hi', hc'⟩ := hf.cells (by decide)
  obtain rfl := Fd.ten hi'
  obtain rfl := h0.val_at
  obtain ⟨A1, c1, rfl⟩ := h1.val_sl
  obtain ⟨B3, d3, rfl⟩ := h3.val_sl
  obtain ⟨B4, d4, rfl⟩ := h4.val_sl
  have q0 := hc 0 (by simp)
  have q1 := hc 1 (by simp)
  have q2 := hc 2 (by simp)
  have r0 := hc' 0 (by simp)
  have r1 := hc' 1 (by simp)
  have r2 := hc' 2 (by simp)
  have r3 := hc' 3 (by simp)
  have r4 := hc' 4 (by simp)
  have r5 := hc' 5 (by simp)
  have r6 := hc' 6 (by simp)
  have r7 := hc' 7 (by simp)
  have r8 := hc' 8 (by simp)
  have r9 := hc' 9 (by simp)
  simp only [List.getElem?_cons_zero, List.getElem?_cons_succ] at q0 q1 q2 r0 r1 r2 r3 r4 r5 r6 r7 r8 r9
  clear hc hi h0 h1 h2 h3 h4 hc' hi' hf
  have hlt := World.block_lt_of_cell? w3 _ q0
  have hlt' := World.block_lt_of_cell? w3 _ r0
  have HB3 := Lib.hid (HB2.out.trans (hb.mono HB2.out.size))
  clear hb
  go_wp2_with fail
  clear q0 q1 q2 r0 r1 r2 r3 r4 r5 r6 r7 r8 r9 hlt hlt' hg hg'
  have HB4 := Lib.hid (HB3.out.alloc HB3.out.size (.cells #[.string ⟨#[]⟩, .slice A1 0 c1, .slice (some ⟨g1, 0, none⟩) 1 cap1, .slice B3 0 d3, .slice B4 0 d4] 27))
  clear HB3 HB2
  generalize World.alloc w3 _ = w4 at *
  refine (fails_any wt3 89 40 w4 (HE.out.below HB4.out) (by decide) works3).mono ?_
  rintro e w5 ⟨rfl, hb⟩
  have HB5 := Lib.hid (HB4.out.trans (hb.mono HB4.out.size))
  clear hb HB4
  go_wp2_with fail
  refine (fails_any wt4 50 40 w5 (HE.out.below HB5.out) (by decide) works4).mono ?_
  rintro e w6 ⟨rfl, hb⟩
  have HB6 := Lib.hid (HB5.out.trans (hb.mono HB5.out.size))
  clear hb HB5
  go_wp2_with fail
  refine (fails_any wt5 0 40 w6 (HE.out.below HB6.out) (by decide) works5).mono ?_
  rintro e w7 ⟨rfl, hb⟩
  have HB7 := Lib.hid (HB6.out.trans (hb.mono HB6.out.size))
  clear hb HB6
  go_wp2_with fail
  refine (fails_any wt6 7 40 w7 (HE.out.below HB7.out) (by decide) works6).mono ?_
  rintro e w8 ⟨rfl, hb⟩
  have HB8 := Lib.hid (HB7.out.trans (hb.mono HB7.out.size))
  clear hb HB7
  go_wp2_with fail
  refine bodyPost_ret (v := .bool true) (by simp [results, Tryz.results20, go_sem]) rfl ⟨rfl, HB8.out⟩
end
section
open Go.RowKit
set_option linter.unusedVariables false
set_option linter.unusedSimpArgs false

/-- Does t stand at this place? -/
def startsB (s : ByteArray) (a : Int) (t : ByteArray) : Bool := if a < 0 ∨ (s.size : Int) ≤ a then false else Lib.hasPrefix (s.data.toList.drop a.toNat) t.data.toList
set_option maxRecDepth 100000 in
set_option maxHeartbeats 1000000 in
theorem starts_any (s : ByteArray) (a : Int) (t : ByteArray) (w : World) (hs : s.size ≤ 1000000) : Calls Tryz.prog 24 #[.string s, .int .i64 a, .string t] w fun e w' => e = .returned (.bool (startsB s a t)) ∧ w = w' := by
  unfold startsB
  by_cases h0 : a < 0
  · rw [if_pos (.inl h0)]
    go_enter Tryz.func24, Tryz.ntmps24
    go_wp2_with fail
    refine bodyPost_ret (v := .bool false) (by simp [results, Tryz.results24, go_sem]) rfl ⟨rfl, rfl⟩
  · by_cases h1 : (s.size : Int) ≤ a
    · rw [if_pos (.inr h1)]
      go_enter Tryz.func24, Tryz.ntmps24
      go_wp2_with fail
      refine bodyPost_ret (v := .bool false) (by simp [results, Tryz.results24, go_sem]) rfl ⟨rfl, rfl⟩
    · rw [if_neg (by omega)]
      obtain ⟨n, rfl⟩ : ∃ n : Nat, a = n := ⟨a.toNat, by omega⟩
      have hn : n < s.size := by omega
      clear h0 h1
      go_enter Tryz.func24, Tryz.ntmps24
      go_wp2_with fail
      refine (hpre_any _ t _).mono ?_
      rintro e w1 ⟨rfl, rfl⟩
      go_wp2_with fail
      refine bodyPost_ret (v := .bool (Lib.hasPrefix (s.extract n s.size).data.toList t.data.toList)) (by simp [results, Tryz.results24, go_sem]) rfl ⟨?_, rfl⟩
      congr 3
      simp
      rw [List.take_of_length_le (by simp)]
end
end Go.Proofs.YthmdaejlopjjoaaGreatDoor
