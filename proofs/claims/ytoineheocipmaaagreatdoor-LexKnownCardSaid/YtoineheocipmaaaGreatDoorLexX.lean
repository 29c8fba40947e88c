/-
  lex: the chapter's texts.
-/
import Derived.Test.YtoineheocipmaaaGreatDoorLexW
namespace Go.Proofs.YtoineheocipmaaaGreatDoor
open Go.RowKit
set_option linter.unusedVariables false
set_option linter.unusedSimpArgs false

deriving instance DecidableEq for Wd
deriving instance DecidableEq for WR

theorem wcs_at : ∀ (l : List Wd) (i : Nat) (h : i < l.length), (wcs l)[i * 4]? = some (.int .i64 l[i].k) ∧ (wcs l)[i * 4 + 2]? = some (.string l[i].t) ∧ (wcs l)[i * 4 + 3]? = some (.int .i64 l[i].n)
  | x :: l, 0, _ => ⟨rfl, rfl, rfl⟩
  | x :: l, i + 1, h => by
    have ih := wcs_at l i (by simpa using h)
    have e : wcs (x :: l) = x.cs ++ wcs l := rfl
    have g : ∀ d, (x.cs ++ wcs l)[(i + 1) * 4 + d]? = (wcs l)[i * 4 + d]? := fun d => by
      rw [List.getElem?_append_right (by simp [Wd.cs]; omega)]
      congr 1
      simp [Wd.cs]; omega
    rw [e]
    exact ⟨(g 0).trans ih.1, (g 2).trans ih.2.1, (g 3).trans ih.2.2⟩
theorem wcs_len : ∀ l : List Wd, (wcs l).length = l.length * 4
  | [] => rfl
  | x :: l => by
    have e : wcs (x :: l) = x.cs ++ wcs l := rfl
    rw [e, List.length_append, wcs_len l]
    simp [Wd.cs]; omega
structure IsR (w w1 : World) (l : List Wd) (b1 b2 b3 : Nat) (v : Value) : Prop where
  k1 : Blk w1 b1 3 (l.map fun y => (.int .i64 y.k : Value)).toArray
  k2 : Blk w1 b2 9 (l.map fun y => (.string y.t : Value)).toArray
  k3 : Blk w1 b3 3 (l.map fun y => (.int .i64 y.n : Value)).toArray
  o : OwnW w1 w.heap.size v l
  b : Below w.heap.size w w1

theorem IsR.drewN {w w1 : World} {l : List Wd} {b1 b2 b3 : Nat} {v : Value} (h : IsR w w1 l b1 b2 b3 v) (m : Nat) : IsR w (w1.drewN m) l b1 b2 b3 v := ⟨h.k1.drewN m, h.k2.drewN m, h.k3.drewN m, h.o, Below.drewN_ h.b m⟩

set_option maxRecDepth 100000 in
set_option maxHeartbeats 1000000 in
theorem wrong_any (s : ByteArray) (E : Nat) (w : World) (hE : Env w) (hs : s.size ≤ 1000000) (h : wordsR s = ⟨E, 0, []⟩) : Calls Tryz.prog 49 #[.string s, .int .i64 E] w fun e w' => e = .returned (.bool true) ∧ Below w.heap.size w w' := by
  have HC := Lib.hid (words_any s w hE hs)
  rw [h] at HC
  have HE := Lib.hid hE
  clear hE
  go_enter Tryz.func49, Tryz.ntmps49
  go_wp2_with fail
  refine (HC.out).mono ?_
  rintro e w1 ⟨v, rfl, ho, hb⟩
  obtain ⟨A, c, rfl, _, _, _⟩ := ho.val
  have HB := Lib.hid hb
  clear hb ho
  go_wp2_with fail
  refine bodyPost_ret (v := .bool true) (by simp [results, Tryz.results49, go_sem]) rfl ⟨rfl, HB.out⟩
set_option maxRecDepth 100000 in
set_option maxHeartbeats 1000000 in
theorem is_any (s : ByteArray) (l : List Wd) (b1 b2 b3 : Nat) (w : World) (hE : Env w) (hs : s.size ≤ 1000000) (h : wordsR s = ⟨0, 0, l⟩) (hl : l.length ≤ 1000000)
    (h1 : Blk w b1 3 (l.map fun y => (.int .i64 y.k : Value)).toArray) (h2 : Blk w b2 9 (l.map fun y => (.string y.t : Value)).toArray) (h3 : Blk w b3 3 (l.map fun y => (.int .i64 y.n : Value)).toArray) :
    Calls Tryz.prog 48 #[.string s, .slice (some ⟨b1, 0, none⟩) l.length l.length, .slice (some ⟨b2, 0, none⟩) l.length l.length, .slice (some ⟨b3, 0, none⟩) l.length l.length] w fun e w' => e = .returned (.bool true) ∧ Below w.heap.size w w' := by
  have HC := Lib.hid (words_any s w hE hs)
  rw [h] at HC
  have hlt1 := h1.lt
  have hlt2 := h2.lt
  have hlt3 := h3.lt
  have H1 := Lib.hid h1
  have H2 := Lib.hid h2
  have H3 := Lib.hid h3
  clear hE h1 h2 h3
  go_enter Tryz.func48, Tryz.ntmps48
  go_wp2_with fail
  refine (HC.out).mono ?_
  rintro e w1 ⟨v, rfl, ho, hb⟩
  have HO := Lib.hid ho
  obtain ⟨A, c, rfl, _, _, hc⟩ := ho.val
  have HB := Lib.hid hb
  have HCE := Lib.hid hc
  have HK1 := Lib.hid (Blk.below H1.out hb hlt1)
  have HK2 := Lib.hid (Blk.below H2.out hb hlt2)
  have HK3 := Lib.hid (Blk.below H3.out hb hlt3)
  clear hb ho H1 H2 H3 hc
  go_wp2_with fail
  have HIS := Lib.hid (IsR.mk HK1.out HK2.out HK3.out HO.out HB.out)
  clear HK1 HK2 HK3 HO HB HCE
  go_loopg [12] l.length (fun g v wr => ∃ i : Nat, i ≤ l.length ∧ g = l.length - i ∧ v = .int .i64 i ∧ IsR w wr l b1 b2 b3 (.slice A l.length c))
  case atStart => exact ⟨0, by omega, rfl, rfl, HIS.out⟩
  case round =>
    obtain ⟨i, hi, rfl, rfl, hr⟩ := hrel
    have HR := Lib.hid hr
    by_cases hil : i < l.length
    · obtain ⟨A', c', he, _, _, hc⟩ := hr.o.val
      obtain ⟨g, hA, hcs⟩ := hc (by omega)
      simp only [Value.slice.injEq, true_and] at he
      obtain ⟨rfl, rfl⟩ := he
      subst hA
      have hw := wcs_at l i hil
      have hwl := wcs_len l
      have q0 := (hcs (i * 4) (by omega)).trans hw.1
      have q2 := (hcs (i * 4 + 2) (by omega)).trans hw.2.1
      have q3 := (hcs (i * 4 + 3) (by omega)).trans hw.2.2
      have p1 : wr.cell? ⟨b1, i, none⟩ = some (.int .i64 l[i].k) := (hr.k1.cell i).trans (by simp [hil])
      have p2 : wr.cell? ⟨b2, i, none⟩ = some (.string l[i].t) := (hr.k2.cell i).trans (by simp [hil])
      have p3 : wr.cell? ⟨b3, i, none⟩ = some (.int .i64 l[i].n) := (hr.k3.cell i).trans (by simp [hil])
      have hil' : (i : Int) < (l.length : Int) := by omega
      generalize hx : l[i] = x at *
      clear hr hc hcs hw hwl
      go_wp2_with fail
      go_quiet (fail)
      go_wp2_with fail
      go_roundg (l.length - (i + 1))
      case measure => omega
      case rel => exact ⟨i + 1, by omega, rfl, by go_num, HR.out.drewN _⟩
    · obtain rfl : i = l.length := by omega
      clear hr
      go_wp2_with fail
      refine bodyPost_ret (v := .bool true) (by simp [results, Tryz.results48, go_sem]) rfl ⟨rfl, HR.out.b⟩
set_option maxRecDepth 100000 in
theorem is_c1 (b1 b2 b3 : Nat) (w : World) (hE : Env w) (h1 : Blk w b1 3 #[.int .i64 1, .int .i64 1, .int .i64 4, .int .i64 2, .int .i64 4, .int .i64 0]) (h2 : Blk w b2 9 #[.string ⟨#[105, 110, 116, 51, 50]⟩, .string ⟨#[97]⟩, .string ⟨#[61]⟩, .string ⟨#[48, 120, 49, 70]⟩, .string ⟨#[59]⟩, .string ⟨#[]⟩]) (h3 : Blk w b3 3 #[.int .i64 0, .int .i64 0, .int .i64 0, .int .i64 31, .int .i64 0, .int .i64 0]) :
    Calls Tryz.prog 48 #[.string ⟨#[105, 110, 116, 51, 50, 32, 97, 61, 48, 120, 49, 70, 59, 32, 47, 47, 32, 110, 111]⟩, .slice (some ⟨b1, 0, none⟩) 6 6, .slice (some ⟨b2, 0, none⟩) 6 6, .slice (some ⟨b3, 0, none⟩) 6 6] w fun e w' => e = .returned (.bool true) ∧ Below w.heap.size w w' :=
  is_any _ [⟨1, 0, ⟨#[105, 110, 116, 51, 50]⟩, 0⟩, ⟨1, 6, ⟨#[97]⟩, 0⟩, ⟨4, 7, ⟨#[61]⟩, 0⟩, ⟨2, 8, ⟨#[48, 120, 49, 70]⟩, 31⟩, ⟨4, 12, ⟨#[59]⟩, 0⟩, ⟨0, 19, ⟨#[]⟩, 0⟩] b1 b2 b3 w hE (by decide) (by decide +kernel) (by decide) h1 h2 h3
set_option maxRecDepth 100000 in
theorem is_c2 (b1 b2 b3 : Nat) (w : World) (hE : Env w) (h1 : Blk w b1 3 #[.int .i64 1, .int .i64 4, .int .i64 1, .int .i64 3, .int .i64 2, .int .i64 0]) (h2 : Blk w b2 9 #[.string ⟨#[97]⟩, .string ⟨#[46]⟩, .string ⟨#[98]⟩, .string ⟨#[99, 10]⟩, .string ⟨#[48, 49, 55]⟩, .string ⟨#[]⟩]) (h3 : Blk w b3 3 #[.int .i64 0, .int .i64 0, .int .i64 0, .int .i64 0, .int .i64 15, .int .i64 0]) :
    Calls Tryz.prog 48 #[.string ⟨#[97, 46, 98, 32, 47, 42, 32, 120, 32, 42, 47, 32, 39, 99, 92, 110, 39, 32, 48, 49, 55]⟩, .slice (some ⟨b1, 0, none⟩) 6 6, .slice (some ⟨b2, 0, none⟩) 6 6, .slice (some ⟨b3, 0, none⟩) 6 6] w fun e w' => e = .returned (.bool true) ∧ Below w.heap.size w w' :=
  is_any _ [⟨1, 0, ⟨#[97]⟩, 0⟩, ⟨4, 1, ⟨#[46]⟩, 0⟩, ⟨1, 2, ⟨#[98]⟩, 0⟩, ⟨3, 12, ⟨#[99, 10]⟩, 0⟩, ⟨2, 18, ⟨#[48, 49, 55]⟩, 15⟩, ⟨0, 21, ⟨#[]⟩, 0⟩] b1 b2 b3 w hE (by decide) (by decide +kernel) (by decide) h1 h2 h3
set_option maxRecDepth 100000 in
theorem wrong_c1 (w : World) (hE : Env w) : Calls Tryz.prog 49 #[.string ⟨#[48, 56]⟩, .int .i64 30] w fun e w' => e = .returned (.bool true) ∧ Below w.heap.size w w' :=
  wrong_any _ 30 w hE (by decide) (by decide +kernel)
set_option maxRecDepth 100000 in
theorem wrong_c2 (w : World) (hE : Env w) : Calls Tryz.prog 49 #[.string ⟨#[48, 120]⟩, .int .i64 30] w fun e w' => e = .returned (.bool true) ∧ Below w.heap.size w w' :=
  wrong_any _ 30 w hE (by decide) (by decide +kernel)
set_option maxRecDepth 100000 in
theorem wrong_c3 (w : World) (hE : Env w) : Calls Tryz.prog 49 #[.string ⟨#[49, 97]⟩, .int .i64 30] w fun e w' => e = .returned (.bool true) ∧ Below w.heap.size w w' :=
  wrong_any _ 30 w hE (by decide) (by decide +kernel)
set_option maxRecDepth 100000 in
theorem wrong_c4 (w : World) (hE : Env w) : Calls Tryz.prog 49 #[.string ⟨#[50, 49, 52, 55, 52, 56, 51, 54, 52, 57]⟩, .int .i64 9] w fun e w' => e = .returned (.bool true) ∧ Below w.heap.size w w' :=
  wrong_any _ 9 w hE (by decide) (by decide +kernel)
set_option maxRecDepth 100000 in
theorem wrong_c5 (w : World) (hE : Env w) : Calls Tryz.prog 49 #[.string ⟨#[47, 42, 32, 97]⟩, .int .i64 30] w fun e w' => e = .returned (.bool true) ∧ Below w.heap.size w w' :=
  wrong_any _ 30 w hE (by decide) (by decide +kernel)
set_option maxRecDepth 100000 in
theorem wrong_c6 (w : World) (hE : Env w) : Calls Tryz.prog 49 #[.string ⟨#[39, 97]⟩, .int .i64 21] w fun e w' => e = .returned (.bool true) ∧ Below w.heap.size w w' :=
  wrong_any _ 21 w hE (by decide) (by decide +kernel)
set_option maxRecDepth 100000 in
theorem wrong_c7 (w : World) (hE : Env w) : Calls Tryz.prog 49 #[.string ⟨#[35]⟩, .int .i64 30] w fun e w' => e = .returned (.bool true) ∧ Below w.heap.size w w' :=
  wrong_any _ 30 w hE (by decide) (by decide +kernel)
theorem three (w : World) (c1 : Array Value) (t1 : TypeId) (c2 : Array Value) (t2 : TypeId) (c3 : Array Value) (t3 : TypeId) :
    Blk (((w.alloc (.cells c1 t1)).alloc (.cells c2 t2)).alloc (.cells c3 t3)) w.heap.size t1 c1 ∧ Blk (((w.alloc (.cells c1 t1)).alloc (.cells c2 t2)).alloc (.cells c3 t3)) (w.heap.size + 1) t2 c2 ∧
    Blk (((w.alloc (.cells c1 t1)).alloc (.cells c2 t2)).alloc (.cells c3 t3)) (w.heap.size + 1 + 1) t3 c3 ∧ Below w.heap.size w (((w.alloc (.cells c1 t1)).alloc (.cells c2 t2)).alloc (.cells c3 t3)) := by
  have h2 := Blk.new (w.alloc (.cells c1 t1)) t2 c2
  have h3 := Blk.new ((w.alloc (.cells c1 t1)).alloc (.cells c2 t2)) t3 c3
  rw [World.size_alloc] at h2 h3
  rw [World.size_alloc] at h3
  exact ⟨Blk.alloc (Blk.alloc (Blk.new w t1 c1) _) _, Blk.alloc h2 _, h3, (((Below.refl _ w).alloc (Nat.le_refl _) _).alloc (by simp) _).alloc (by simp; omega) _⟩
set_option maxRecDepth 100000 in
set_option maxHeartbeats 1000000 in
theorem lexWorks_any (w : World) (hE : Env w) : Calls Tryz.prog 16 #[] w fun e w' => e = .returned (.bool true) ∧ Below w.heap.size w w' := by
  have HE := Lib.hid hE
  clear hE
  go_enter Tryz.func16, Tryz.ntmps16
  go_wp2_with fail
  refine (is_c1 _ _ _ _ (HE.out.below (three w _ 3 _ 9 _ 3).2.2.2) (three w _ 3 _ 9 _ 3).1 (three w _ 3 _ 9 _ 3).2.1 (three w _ 3 _ 9 _ 3).2.2.1).mono ?_
  rintro e w1 ⟨rfl, hb⟩
  have HB1 := Lib.hid ((three w _ 3 _ 9 _ 3).2.2.2.trans (hb.mono (three w _ 3 _ 9 _ 3).2.2.2.size))
  clear hb
  go_wp2_with fail
  refine (is_c2 _ _ _ _ ((HE.out.below HB1.out).below (three w1 _ 3 _ 9 _ 3).2.2.2) (three w1 _ 3 _ 9 _ 3).1 (three w1 _ 3 _ 9 _ 3).2.1 (three w1 _ 3 _ 9 _ 3).2.2.1).mono ?_
  rintro e w2 ⟨rfl, hb⟩
  have HB2 := Lib.hid (HB1.out.trans (((three w1 _ 3 _ 9 _ 3).2.2.2.trans (hb.mono (three w1 _ 3 _ 9 _ 3).2.2.2.size)).mono HB1.out.size))
  clear hb HB1
  go_wp2_with fail
  refine (wrong_c1 _ (HE.out.below HB2.out)).mono ?_
  rintro e w3 ⟨rfl, hb⟩
  have HB3 := Lib.hid (HB2.out.trans (hb.mono HB2.out.size))
  clear hb
  go_wp2_with fail
  refine (wrong_c2 _ (HE.out.below HB3.out)).mono ?_
  rintro e w4 ⟨rfl, hb⟩
  have HB4 := Lib.hid (HB3.out.trans (hb.mono HB3.out.size))
  clear hb
  go_wp2_with fail
  refine (wrong_c3 _ (HE.out.below HB4.out)).mono ?_
  rintro e w5 ⟨rfl, hb⟩
  have HB5 := Lib.hid (HB4.out.trans (hb.mono HB4.out.size))
  clear hb
  go_wp2_with fail
  refine (wrong_c4 _ (HE.out.below HB5.out)).mono ?_
  rintro e w6 ⟨rfl, hb⟩
  have HB6 := Lib.hid (HB5.out.trans (hb.mono HB5.out.size))
  clear hb
  go_wp2_with fail
  refine (wrong_c5 _ (HE.out.below HB6.out)).mono ?_
  rintro e w7 ⟨rfl, hb⟩
  have HB7 := Lib.hid (HB6.out.trans (hb.mono HB6.out.size))
  clear hb
  go_wp2_with fail
  refine (wrong_c6 _ (HE.out.below HB7.out)).mono ?_
  rintro e w8 ⟨rfl, hb⟩
  have HB8 := Lib.hid (HB7.out.trans (hb.mono HB7.out.size))
  clear hb
  go_wp2_with fail
  refine (wrong_c7 _ (HE.out.below HB8.out)).mono ?_
  rintro e w9 ⟨rfl, hb⟩
  have HB9 := Lib.hid (HB8.out.trans (hb.mono HB8.out.size))
  clear hb
  go_wp2_with fail
  go_ret
  exact ⟨rfl, HB9.out⟩
end Go.Proofs.YtoineheocipmaaaGreatDoor
