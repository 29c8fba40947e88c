/-
  tree: the words that are still to be read, in memory; how a reader ends.
  tree: next, pass, says, and what stands on them.
  tree: takes, of, expect.
  tree: literal, empty.
  tree: number.
  tree: full.
  tree: name.
  tree: span.
  tree: ranges.
-/
import Derived.Test.YthmdaejlopjjoaaGreatDoorTmA
import Derived.Test.YthmdaejlopjjoaaGreatDoorProg
import Derived.WalkMore
import Derived.Deep.RegionLaw
import Derived.Deep.QuietTactic
import Derived.Deep.CutBlock
import Derived.StillTailTactics
import Derived.BigQuiet
import Derived.Deep.DeepCutAuto
import Derived.Deep.RegionHeld3
import Derived.Outline
import Derived.Deep.LoopGhost
import Derived.Deep.RegionWith
import Derived.Lib.AppendStr
namespace Go.Proofs.YthmdaejlopjjoaaGreatDoor
section
open Go.RowKit
set_option linter.unusedVariables false
set_option linter.unusedSimpArgs false

structure WdB (x : Wd) : Prop where
  t : x.t.size ≤ 65536
  n0 : 0 ≤ x.n
  n1 : x.n ≤ 2147483648
  p : x.p ≤ 65536
  k : x.k ≤ 4
/-- Words, the end behind them. -/
def Gd : List Wd → Prop
  | [] => False
  | [x] => WdB x ∧ x.k = 0 ∧ x.t = ⟨#[]⟩
  | x :: y :: l => WdB x ∧ x.k ≠ 0 ∧ Gd (y :: l)
theorem Gd.ne : ∀ {l : List Wd}, Gd l → l = hdW l :: l.tail
  | [], h => h.elim
  | x :: l, _ => rfl
theorem Gd.len {l : List Wd} (h : Gd l) : l.length = l.tail.length + 1 := by
  conv => lhs; rw [h.ne]
  rfl
theorem Gd.hd : ∀ {l : List Wd}, Gd l → WdB (hdW l)
  | [], h => h.elim
  | [x], h => h.1
  | x :: y :: l, h => h.1
theorem Gd.tail_ : ∀ {l : List Wd}, Gd l → (hdW l).k ≠ 0 → Gd l.tail
  | [], h, _ => h.elim
  | [x], h, hk => absurd h.2.1 hk
  | x :: y :: l, h, _ => h.2.2
theorem Gd.say0 : ∀ {l : List Wd}, Gd l → (hdW l).k = 0 → sayW l = ⟨#[]⟩
  | [], h, _ => h.elim
  | [x], h, hk => by
    unfold sayW
    rw [if_neg (by rw [hk]; decide)]
    exact h.2.2
  | x :: y :: l, h, hk => absurd hk h.2.1
theorem Gd.tail_k {l : List Wd} {k : Nat} (h : Gd l) (e : (hdW l).k = k) (hk : k ≠ 0) : Gd l.tail := h.tail_ (by omega)
theorem Gd.tail_s {l : List Wd} {s : ByteArray} (h : Gd l) (e : sayW l = s) (hs : s ≠ ⟨#[]⟩) : Gd l.tail :=
  h.tail_ fun hk => hs (by rw [← e]; exact h.say0 hk)

/-- The words l are what the parser in block b has still to read; g: where all words lie. -/
structure Ps (w : World) (b g : Nat) (cur : Array Value) (l : List Wd) : Prop where
  pb : ∃ o c, Blk w b 106 #[.slice (some ⟨g, o, none⟩) l.length c] ∧ l.length ≤ c ∧ c ≤ 9223372036854775807 ∧ ∀ i, i < (wcs l).length → cur[o + i]? = (wcs l)[i]?
  gb : Blk w g 73 cur
  ne : g ≠ b
  gd : Gd l
  few : l.length ≤ 100000
theorem Ps.kp {S : Nat → Prop} {w w' : World} {b g : Nat} {cur : Array Value} {l : List Wd} (h : Ps w b g cur l) (hk : Kp S w w') (hb : ¬ S b) (hg : ¬ S g) : Ps w' b g cur l := by
  obtain ⟨o, c, h1, h2⟩ := h.pb
  exact ⟨⟨o, c, h1.kp hk hb, h2⟩, h.gb.kp hk hg, h.ne, h.gd, h.few⟩
theorem Ps.drewN {w : World} {b g : Nat} {cur : Array Value} {l : List Wd} (h : Ps w b g cur l) (m : Nat) : Ps (w.drewN m) b g cur l := ⟨h.pb, h.gb, h.ne, h.gd, h.few⟩
theorem Ps.alloc {w : World} {b g : Nat} {cur : Array Value} {l : List Wd} (h : Ps w b g cur l) (o : Obj) : Ps (w.alloc o) b g cur l :=
  h.kp (S := fun _ => False) ((Kp.refl _ w).alloc o) (fun h => h) (fun h => h)
theorem Ps.far {w : World} {b g : Nat} {cur : Array Value} {l : List Wd} (h : Ps w b g cur l) {p : Addr} (hb : p.block ≠ b) (hg : p.block ≠ g) (u : Value) : Ps (w.setCell p u) b g cur l :=
  h.kp (S := fun k => k = p.block) (Kp.setCell (S := fun k => k = p.block) (Kp.refl _ w) (fun _ => rfl) u) (fun e => hb e.symm) (fun e => hg e.symm)
theorem Ps.lt {w : World} {b g : Nat} {cur : Array Value} {l : List Wd} (h : Ps w b g cur l) : b < w.heap.size := by
  obtain ⟨o, c, h1, _⟩ := h.pb
  exact h1.lt
/-- The first word's cells. -/
theorem Ps.first {w : World} {b g : Nat} {cur : Array Value} {l : List Wd} (h : Ps w b g cur l) : ∃ o c, w.cell? ⟨b, 0, none⟩ = some (.slice (some ⟨g, o, none⟩) (l.tail.length + 1) c) ∧ w.frozen? ⟨b, 0, none⟩ = false ∧ l.tail.length + 1 ≤ c ∧ c ≤ 9223372036854775807 ∧
    w.cell? ⟨g, o, none⟩ = some (.int .i64 (hdW l).k) ∧ w.cell? ⟨g, o + 1, none⟩ = some (.int .i64 (hdW l).p) ∧ w.cell? ⟨g, o + 2, none⟩ = some (.string (hdW l).t) ∧ w.cell? ⟨g, o + 3, none⟩ = some (.int .i64 (hdW l).n) ∧
    (∀ w' : World, Blk w' b 106 #[.slice (some ⟨g, o + 4, none⟩) l.tail.length (c - 1)] → Blk w' g 73 cur → (hdW l).k ≠ 0 → Ps w' b g cur l.tail) := by
  obtain ⟨o, c, h1, h2, h3, h4⟩ := h.pb
  have hl := h.gd.ne
  have hln := h.gd.len
  have hc : ∀ i, w.cell? ⟨g, i, none⟩ = cur[i]? := fun i => h.gb.cell i
  have hw : wcs l = (hdW l).cs ++ wcs l.tail := (congrArg wcs hl).trans (wcs_cons _ _)
  have h5 : ∀ i, i < 4 → cur[o + i]? = (hdW l).cs[i]? := by
    intro i hi
    rw [h4 i (by rw [hw]; simp [Wd.cs]; omega), hw, List.getElem?_append_left (by simpa [Wd.cs] using hi)]
  refine ⟨o, c, ?_, h1.frozen 0, by omega, h3, ?_, ?_, ?_, ?_, fun w' k1 k2 k3 => ⟨⟨o + 4, c - 1, k1, by omega, by omega, fun i hi => ?_⟩, k2, h.ne, h.gd.tail_ k3, by have := h.few; simp; omega⟩⟩
  · rw [h1.cell 0, hln]; rfl
  · rw [hc]; exact h5 0 (by omega)
  · rw [hc]; exact h5 1 (by omega)
  · rw [hc]; exact h5 2 (by omega)
  · rw [hc]; exact h5 3 (by omega)
  · have := h4 (i + 4) (by rw [hw, List.length_append]; simp [Wd.cs]; omega)
    rw [show o + 4 + i = o + (i + 4) by omega, this, hw, List.getElem?_append_right (by simp [Wd.cs])]
    simp [Wd.cs]

/-- What a reader that stops throws. -/
def stopV (p e : Nat) : Value := .iface 102 (.agg #[.int .i64 p, .int .i64 e])
def Stp (p e : Nat) : Ending := .panicked [{ v := stopV p e, recovered := false }]
/-- A reader ends as r says. -/
def PzQ {α : Type} (r : Pz α) (N : World → Prop) (K : α → List Wd → Value → World → Prop) (e : Ending) (w' : World) : Prop :=
  match r with
  | .no p c => e = Stp p c ∧ N w'
  | .ok a l => ∃ v, e = .returned v ∧ K a l v w'
def wV (x : Wd) : Value := .agg #[.int .i64 x.k, .int .i64 x.p, .string x.t, .int .i64 x.n]
/-- Only block b has turned. -/
abbrev Kb (b : Nat) (w w' : World) : Prop := Kp (fun k => k = b) w w'
end
section
open Go.RowKit
set_option linter.unusedVariables false
set_option linter.unusedSimpArgs false

section
variable {w : World} {b g : Nat} {cur : Array Value} {l : List Wd}
/-- Nothing that was there has turned. -/
abbrev Kn (w w' : World) : Prop := Kp (fun _ => False) w w'
theorem Kn.kb {w w' : World} (h : Kn w w') (b : Nat) : Kb b w w' := h.mono fun _ f => f.elim
theorem Ps.kn {w w' : World} (h : Ps w b g cur l) (k : Kn w w') : Ps w' b g cur l := h.kp k (fun f => f) (fun f => f)
theorem Gd.two (h : Gd l) (hk : (hdW l).k ≠ 0) : 1 ≤ l.tail.length := by have := (h.tail_ hk).len; omega
/-- The fields of a word. -/
theorem fld0 : ∀ (k p : Int) (t : ByteArray) (n : Int) (W : World), (Instr.field 73 (.agg #[.int .i64 k, .int .i64 p, .string t, .int .i64 n]) 0).run Tryz.prog W = .ok (.int .i64 k) W := fun _ _ _ _ _ => by kernel_rfl
theorem fld1 : ∀ (k p : Int) (t : ByteArray) (n : Int) (W : World), (Instr.field 73 (.agg #[.int .i64 k, .int .i64 p, .string t, .int .i64 n]) 1).run Tryz.prog W = .ok (.int .i64 p) W := fun _ _ _ _ _ => by kernel_rfl
theorem fld2 : ∀ (k p : Int) (t : ByteArray) (n : Int) (W : World), (Instr.field 73 (.agg #[.int .i64 k, .int .i64 p, .string t, .int .i64 n]) 2).run Tryz.prog W = .ok (.string t) W := fun _ _ _ _ _ => by kernel_rfl
theorem fld3 : ∀ (k p : Int) (t : ByteArray) (n : Int) (W : World), (Instr.field 73 (.agg #[.int .i64 k, .int .i64 p, .string t, .int .i64 n]) 3).run Tryz.prog W = .ok (.int .i64 n) W := fun _ _ _ _ _ => by kernel_rfl
set_option maxRecDepth 100000 in
set_option maxHeartbeats 1000000 in
theorem next_any (h : Ps w b g cur l) : Calls Tryz.prog 101 #[.pointer (some ⟨b, 0, none⟩)] w fun e w' => e = .returned (wV (hdW l)) ∧ Kn w w' := by
  obtain ⟨o, c, d1, d2, d3, d4, c0, c1, c2, c3, _⟩ := h.first
  unfold wV
  have hbl := h.lt
  have hgl := h.gb.lt
  generalize hx : hdW l = x at *
  clear hx h
  go_enter Tryz.func101, Tryz.ntmps101
  go_wp2_with fail
  refine bodyPost_ret (v := wV x) (by simp [results, Tryz.results101, go_sem, wV]) rfl ⟨rfl, (Kp.refl _ w).alloc _⟩
set_option maxRecDepth 100000 in
set_option maxHeartbeats 1000000 in
theorem pass_any (h : Ps w b g cur l) (hk : (hdW l).k ≠ 0) : Calls Tryz.prog 175 #[.pointer (some ⟨b, 0, none⟩)] w fun e w' => e = .returned (wV (hdW l)) ∧ Ps w' b g cur l.tail ∧ Kb b w w' := by
  obtain ⟨o, c, d1, d2, d3, d4, c0, c1, c2, c3, hn⟩ := h.first
  have hbl := h.lt
  have hgl := h.gb.lt
  have hc1 : ¬ c = 1 := by have := h.gd.two hk; omega
  have H := Lib.hid h
  have HN := Lib.hid fun w' k1 k2 => hn w' k1 k2 hk
  obtain ⟨_, _, hpb, _⟩ := h.pb
  have HB := Lib.hid hpb
  generalize hx : hdW l = x at *
  generalize hl' : l.tail = l' at *
  clear hx h hn hl' hpb
  go_enter Tryz.func175, Tryz.ntmps175
  go_wp2_with fail
  refine bodyPost_ret (v := wV x) (by simp [results, Tryz.results175, go_sem, wV]) rfl ⟨rfl, HN.out _ (((Blk.set_ HB.out 0 _).alloc _).alloc _) (((Blk.far H.out.gb H.out.ne _).alloc _).alloc _), ?_⟩
  exact ((Kp.setCell (S := fun k => k = b) (Kp.refl _ w) (fun _ => rfl) _).alloc _).alloc _
set_option maxRecDepth 100000 in
set_option maxHeartbeats 1000000 in
theorem says_any (h : Ps w b g cur l) : Calls Tryz.prog 153 #[.pointer (some ⟨b, 0, none⟩)] w fun e w' => e = .returned (.string (sayW l)) ∧ Kn w w' := by
  have H := Lib.hid h
  have HC := Lib.hid fun (w' : World) (k : Kn w w') => next_any (h.kn k)
  obtain ⟨S, hS⟩ : ∃ S, S = sayW l := ⟨_, rfl⟩
  rw [← hS]
  unfold sayW at hS
  generalize hx : hdW l = x at *
  have f0 := fld0
  have f1 := fld1
  have f2 := fld2
  have f3 := fld3
  by_cases h3 : x.k = 3
  · have h3' : ((x.k : Nat) : Int) = 3 := by omega
    rw [if_pos h3] at hS
    subst hS
    clear h3 h
    go_enter Tryz.func153, Tryz.ntmps153
    go_wp2_with fail
    refine (HC.out w (Kp.refl _ w)).mono ?_
    rintro e w1 ⟨rfl, hk⟩
    have HK := Lib.hid hk
    clear hk
    unfold wV
    go_wp2_with fail
    go_ret
    exact ⟨rfl, HK.out⟩
  · have h3' : ¬ ((x.k : Nat) : Int) = 3 := by omega
    rw [if_neg h3] at hS
    subst hS
    clear h3 h
    go_enter Tryz.func153, Tryz.ntmps153
    go_wp2_with fail
    refine (HC.out w (Kp.refl _ w)).mono ?_
    rintro e w1 ⟨rfl, hk⟩
    have HK := Lib.hid hk
    clear hk
    unfold wV
    go_wp2_with fail
    refine (HC.out w1 HK.out).mono ?_
    rintro e w2 ⟨rfl, hk2⟩
    have HK2 := Lib.hid hk2
    clear hk2
    unfold wV
    go_wp2_with fail
    go_ret
    exact ⟨rfl, HK.out.trans HK2.out⟩
set_option maxRecDepth 100000 in
set_option maxHeartbeats 1000000 in
theorem stopHere_any (h : Ps w b g cur l) (n : Nat) : Calls Tryz.prog 154 #[.pointer (some ⟨b, 0, none⟩), .int .i64 n] w fun e w' => e = Stp (hdW l).p n ∧ Kn w w' := by
  have HC := Lib.hid (next_any h)
  generalize hx : hdW l = x at *
  have f0 := fld0
  have f1 := fld1
  have f2 := fld2
  have f3 := fld3
  clear h
  go_enter Tryz.func154, Tryz.ntmps154
  go_wp2_with fail
  refine HC.out.mono ?_
  rintro e w1 ⟨rfl, hk⟩
  have HK := Lib.hid hk
  clear hk
  unfold wV
  go_wp2_with fail
  exact ⟨rfl, rfl, HK.out⟩
set_option maxRecDepth 100000 in
set_option maxHeartbeats 1000000 in
theorem refuse_any (h : Ps w b g cur l) : Calls Tryz.prog 103 #[.pointer (some ⟨b, 0, none⟩)] w fun e w' => e = Stp (hdW l).p 40 ∧ Kn w w' := by
  have HC := Lib.hid (stopHere_any h 40)
  clear h
  go_enter Tryz.func103, Tryz.ntmps103
  go_wp2_with fail
  refine HC.out.mono ?_
  rintro e w1 ⟨rfl, hk⟩
  have HK := Lib.hid hk
  clear hk
  unfold Stp
  go_wp2_with fail
  exact ⟨rfl, rfl, HK.out⟩
set_option maxRecDepth 100000 in
set_option maxHeartbeats 1000000 in
/-- There is room, or the reader stops. -/
theorem room_any (h : Ps w b g cur l) (n most : Nat) : Calls Tryz.prog 177 #[.pointer (some ⟨b, 0, none⟩), .int .i64 n, .int .i64 most] w fun e w' => (most ≤ n ∧ e = Stp (hdW l).p 5 ∨ ¬ most ≤ n ∧ e = .returned (.tuple #[])) ∧ Kn w w' := by
  have HC := Lib.hid (stopHere_any h 5)
  clear h
  by_cases hn : most ≤ n
  · have hn' : (n : Int) ≥ (most : Int) := by omega
    go_enter Tryz.func177, Tryz.ntmps177
    go_wp2_with fail
    refine HC.out.mono ?_
    rintro e w1 ⟨rfl, hk⟩
    have HK := Lib.hid hk
    clear hk
    unfold Stp
    go_wp2_with fail
    exact ⟨rfl, .inl ⟨hn, rfl⟩, HK.out⟩
  · have hn' : ¬ (n : Int) ≥ (most : Int) := by omega
    go_enter Tryz.func177, Tryz.ntmps177
    go_wp2_with fail
    go_end0
    exact ⟨rfl, Kp.refl _ _⟩
end
end
section
open Go.RowKit
set_option linter.unusedVariables false
set_option linter.unusedSimpArgs false

section
variable {w : World} {b g : Nat} {cur : Array Value} {l : List Wd}
theorem Gd.k_s {l : List Wd} {s : ByteArray} (h : Gd l) (e : sayW l = s) (hs : s ≠ ⟨#[]⟩) : (hdW l).k ≠ 0 := fun hk => hs (by rw [← e]; exact h.say0 hk)
theorem ba_list (a b : ByteArray) : (a.toList == b.toList) = decide (a = b) := by
  by_cases h : a = b
  · subst h; simp
  · rw [decide_eq_false h]
    refine beq_eq_false_iff_ne.mpr fun e => h ?_
    rw [Lib.toList_data, Lib.toList_data] at e
    obtain ⟨a⟩ := a
    obtain ⟨b⟩ := b
    congr 1
    exact Array.toList_inj.mp e
theorem Blk.four_ {w : World} {q : Nat} {t : TypeId} {a1 a2 a3 a4 : Value} (h : Blk w q t #[a1, a2, a3, a4]) : w.cell? ⟨q, 0, none⟩ = some a1 ∧ w.cell? ⟨q, 1, none⟩ = some a2 ∧ w.cell? ⟨q, 2, none⟩ = some a3 ∧ w.cell? ⟨q, 3, none⟩ = some a4 ∧
    w.frozen? ⟨q, 0, none⟩ = false ∧ w.frozen? ⟨q, 1, none⟩ = false ∧ w.frozen? ⟨q, 2, none⟩ = false ∧ w.frozen? ⟨q, 3, none⟩ = false :=
  ⟨h.cell 0, h.cell 1, h.cell 2, h.cell 3, h.frozen 0, h.frozen 1, h.frozen 2, h.frozen 3⟩
theorem Blk.put4 {w : World} {q : Nat} {t : TypeId} {a1 a2 a3 a4 : Value} (h : Blk w q t #[a1, a2, a3, a4]) (u1 u2 u3 u4 : Value) : Blk ((((w.setCell ⟨q, 0, none⟩ u1).setCell ⟨q, 1, none⟩ u2).setCell ⟨q, 2, none⟩ u3).setCell ⟨q, 3, none⟩ u4) q t #[u1, u2, u3, u4] :=
  (((h.set_ 0 u1).set_ 1 u2).set_ 2 u3).set_ 3 u4
theorem Kp.put4 {S : Nat → Prop} {a w : World} (h : Kp S a w) {q : Nat} (hq : q < a.heap.size → S q) (u1 u2 u3 u4 : Value) : Kp S a ((((w.setCell ⟨q, 0, none⟩ u1).setCell ⟨q, 1, none⟩ u2).setCell ⟨q, 2, none⟩ u3).setCell ⟨q, 3, none⟩ u4) :=
  (((h.setCell hq u1).setCell hq u2).setCell hq u3).setCell hq u4
/-- What takes answers. -/
def TkP (w : World) (b g : Nat) (cur : Array Value) (l : List Wd) (s : ByteArray) (e : Ending) (w' : World) : Prop :=
  (sayW l = s ∧ e = .returned (.bool true) ∧ Ps w' b g cur l.tail ∧ Gd l.tail ∨ ¬ sayW l = s ∧ e = .returned (.bool false) ∧ Ps w' b g cur l) ∧ Kb b w w'
set_option maxRecDepth 100000 in
set_option maxHeartbeats 1000000 in
theorem takes_any (h : Ps w b g cur l) (s : ByteArray) (hs : s ≠ ⟨#[]⟩) : Calls Tryz.prog 145 #[.pointer (some ⟨b, 0, none⟩), .string s] w (TkP w b g cur l s) := by
  have H := Lib.hid h
  have HC := Lib.hid (says_any h)
  obtain ⟨S, hS⟩ : ∃ S, S = sayW l := ⟨_, rfl⟩
  rw [← hS] at HC
  by_cases hq : S = s
  · have HG := Lib.hid (h.gd.tail_s (hS.symm.trans hq) hs)
    have HK0 := Lib.hid (h.gd.k_s (hS.symm.trans hq) hs)
    have HQ := Lib.hid (hS.symm.trans hq)
    subst hq
    have hbe : (S.toList == S.toList) = true := by rw [ba_list]; simp
    clear h hS
    go_enter Tryz.func145, Tryz.ntmps145
    go_wp2_with fail
    refine HC.out.mono ?_
    rintro e w1 ⟨rfl, hk⟩
    have HK := Lib.hid hk
    clear hk
    go_wp2_with fail
    refine (pass_any (H.out.kn HK.out) HK0.out).mono ?_
    rintro e w2 ⟨rfl, hp, hk2⟩
    have HP := Lib.hid hp
    have HK2 := Lib.hid hk2
    clear hp hk2
    unfold wV
    go_wp2_with fail
    go_ret
    exact ⟨.inl ⟨HQ.out, rfl, HP.out, HG.out⟩, (HK.out.kb b).trans HK2.out⟩
  · have hbe : (S.toList == s.toList) = false := by rw [ba_list]; simp [hq]
    have HQ := Lib.hid (show ¬ sayW l = s from fun e => hq (hS.trans e))
    clear h hS
    go_enter Tryz.func145, Tryz.ntmps145
    go_wp2_with fail
    refine HC.out.mono ?_
    rintro e w1 ⟨rfl, hk⟩
    have HK := Lib.hid hk
    clear hk
    go_wp2_with fail
    go_ret
    exact ⟨.inr ⟨HQ.out, rfl, H.out.kn HK.out⟩, HK.out.kb b⟩
set_option maxRecDepth 100000 in
set_option maxHeartbeats 1000000 in
theorem of_any (h : Ps w b g cur l) (k : Nat) (hk0 : k ≠ 0) : Calls Tryz.prog 146 #[.pointer (some ⟨b, 0, none⟩), .int .i64 k] w
    (PzQ (ofP k l) (Kb b w) fun x l' v w' => x = hdW l ∧ l' = l.tail ∧ v = wV x ∧ Ps w' b g cur l' ∧ Kb b w w') := by
  have H := Lib.hid h
  have HC := Lib.hid fun (w' : World) (k : Kn w w') => next_any (h.kn k)
  unfold ofP
  have f0 := fld0
  by_cases hq : (hdW l).k = k
  · rw [if_pos hq]
    have HK0 := Lib.hid (show (hdW l).k ≠ 0 by omega)
    generalize hx : hdW l = x at *
    have hq' : ((x.k : Nat) : Int) = (k : Int) := by omega
    have HX := Lib.hid hx
    clear h hq hx
    go_enter Tryz.func146, Tryz.ntmps146
    go_wp2_with fail
    refine (HC.out _ ((Kp.refl _ w).alloc _)).mono ?_
    rintro e w1 ⟨rfl, hk⟩
    have HK := Lib.hid hk
    clear hk
    unfold wV
    go_wp2_with fail
    have HW := Lib.hid (Blk.kp (Blk.new w 73 #[.int .i64 0, .int .i64 0, .string ⟨#[]⟩, .int .i64 0]) HK.out (fun f => f))
    have HK1 := Lib.hid (((Kp.refl _ w).alloc _).trans HK.out)
    have HPS := Lib.hid (pass_any (H.out.kn HK1.out) (by rw [HX.out]; exact HK0.out))
    rw [HX.out] at HPS
    refine HPS.out.mono ?_
    rintro e w2 ⟨rfl, hp, hk2⟩
    have HP := Lib.hid hp
    have HK2 := Lib.hid hk2
    have hbw := (H.out).lt
    have HW2 := Lib.hid (HW.out.kp hk2 (by omega))
    obtain ⟨m0, m1, m2, m3, y0, y1, y2, y3⟩ := HW2.out.four_
    clear hp hk2
    unfold wV
    go_wp2_with fail
    have P1 := Lib.hid (HP.out.kp (Kp.put4 (S := fun k => k = w.heap.size) (Kp.refl _ w2) (fun _ => rfl) (.int .i64 k) (.int .i64 x.p) (.string x.t) (.int .i64 x.n)) (by omega) (by have := H.out.gb.lt; omega))
    have K1 := Lib.hid (Kp.put4 ((HK1.out.mono fun _ f => f.elim : Kb b w w1).trans HK2.out) (q := w.heap.size) (fun h => by omega) (.int .i64 k) (.int .i64 x.p) (.string x.t) (.int .i64 x.n))
    obtain ⟨z0, z1, z2, z3, _⟩ := (HW2.out.put4 (.int .i64 k) (.int .i64 x.p) (.string x.t) (.int .i64 x.n)).four_
    generalize World.setCell (World.setCell (World.setCell (World.setCell w2 _ _) _ _) _ _) _ _ = wz at *
    refine bodyPost_ret (v := wV x) (by simp [results, Tryz.results146, go_sem, wV, hq', z0, z1, z2, z3]) rfl ⟨_, rfl, rfl, rfl, rfl, P1.out, K1.out⟩
  · rw [if_neg hq]
    have HR := Lib.hid fun (w' : World) (k : Kn w w') => refuse_any (h.kn k)
    unfold refuse
    generalize hx : hdW l = x at *
    have hq' : ¬ ((x.k : Nat) : Int) = (k : Int) := by omega
    clear h hq hx
    go_enter Tryz.func146, Tryz.ntmps146
    go_wp2_with fail
    refine (HC.out _ ((Kp.refl _ w).alloc _)).mono ?_
    rintro e w1 ⟨rfl, hk⟩
    have HK := Lib.hid hk
    clear hk
    unfold wV
    go_wp2_with fail
    have HK1 := Lib.hid (((Kp.refl _ w).alloc _).trans HK.out)
    refine (HR.out w1 HK1.out).mono ?_
    rintro e w2 ⟨rfl, hk2⟩
    have HK2 := Lib.hid hk2
    clear hk2
    unfold Stp
    go_wp2_with fail
    exact ⟨rfl, rfl, Kn.kb (HK1.out.trans HK2.out) b⟩
set_option maxRecDepth 100000 in
set_option maxHeartbeats 1000000 in
theorem expect_any (ss : List ByteArray) (hss : ∀ s ∈ ss, s ≠ ⟨#[]⟩) (h : Ps w b g cur l) (B : Nat) (hB : Blk w B 9 (ss.map Value.string).toArray) (hb : B ≠ b) (hn : ss.length ≤ 1000) :
    Calls Tryz.prog 97 #[.pointer (some ⟨b, 0, none⟩), .slice (some ⟨B, 0, none⟩) ss.length ss.length] w
    (PzQ (expP ss l) (Kb b w) fun _ l' v w' => v = .tuple #[] ∧ Ps w' b g cur l' ∧ Kb b w w') := by
  obtain ⟨R, hR⟩ : ∃ R, R = expP ss l := ⟨_, rfl⟩
  rw [← hR]
  have HR := Lib.hid hR
  have H := Lib.hid h
  have HB := Lib.hid hB
  have HSS := Lib.hid hss
  clear h hB hR hss
  go_enter Tryz.func97, Tryz.ntmps97
  go_wp2_with fail
  go_loopg [8] (ss.length + 1) (fun gg v wr => ∃ (i : Nat) (l' : List Wd), i ≤ ss.length ∧ gg = ss.length + 1 - i ∧ v = .int .i64 i ∧ R = expP (ss.drop i) l' ∧ Ps wr b g cur l' ∧ Kb b w wr)
  case atStart => exact ⟨0, l, by omega, rfl, rfl, by rw [List.drop_zero]; exact HR.out, H.out, Kp.refl _ _⟩
  case round =>
    obtain ⟨i, l', hi, rfl, rfl, hR', hp, hk⟩ := hrel
    have HP := Lib.hid hp
    have HK := Lib.hid hk
    by_cases hil : i < ss.length
    · rw [List.drop_eq_getElem_cons hil] at hR'
      have hs0 : ss[i] ≠ ⟨#[]⟩ := HSS.out _ (List.getElem_mem hil)
      have q0 : wr.cell? ⟨B, i, none⟩ = some (.string ss[i]) := ((HB.out.kp hk hb).cell i).trans (by simp [hil])
      generalize hx : ss[i] = x at *
      rw [expP] at hR'
      have HR' := Lib.hid hR'
      have HC := Lib.hid (takes_any hp x hs0)
      have HF := Lib.hid (refuse_any hp)
      have hil' : (i : Int) < (ss.length : Int) := by omega
      clear hR' hp hk hx hs0
      go_wp2_with fail
      refine HC.out.mono ?_
      rintro e w1 ⟨h1, hk1⟩
      have HK1 := Lib.hid hk1
      rcases h1 with ⟨hq, rfl, hp1, _⟩ | ⟨hq, rfl, hp1⟩
      · have HP1 := Lib.hid hp1
        have HQ := Lib.hid hq
        clear hp1 hk1 hq
        go_wp2_with fail
        go_roundg (ss.length + 1 - (i + 1))
        case measure => omega
        case rel => exact ⟨i + 1, l'.tail, by omega, rfl, by go_num, by rw [HR'.out, if_pos HQ.out], HP1.out, HK.out.trans HK1.out⟩
      · have HP1 := Lib.hid (refuse_any hp1)
        have HQ := Lib.hid hq
        clear hp1 hk1 hq
        go_wp2_with fail
        refine HP1.out.mono ?_
        rintro e w2 ⟨rfl, hk2⟩
        have HK2 := Lib.hid hk2
        clear hk2
        unfold Stp
        go_wp2_with fail
        rw [HR'.out, if_neg HQ.out]
        exact ⟨rfl, rfl, (HK.out.trans HK1.out).trans (Kn.kb HK2.out b)⟩
    · obtain rfl : i = ss.length := by omega
      rw [List.drop_length] at hR'
      have HR' := Lib.hid hR'
      clear hR' hp hk
      go_wp2_with fail
      rw [HR'.out]
      go_end0
      exact ⟨_, rfl, rfl, HP.out, HK.out⟩
end
end
section
open Go.RowKit
set_option linter.unusedVariables false
set_option linter.unusedSimpArgs false

section
variable {w : World} {b g : Nat} {cur : Array Value} {l : List Wd}
/-- A reader of one word into the result's variable. -/
def OfK (w : World) (b g : Nat) (cur : Array Value) (l : List Wd) : Wd → List Wd → Value → World → Prop :=
  fun x l' v w' => x = hdW l ∧ l' = l.tail ∧ v = wV x ∧ Ps w' b g cur l' ∧ Kb b w w'
set_option maxRecDepth 100000 in
set_option maxHeartbeats 1000000 in
theorem literal_any (h : Ps w b g cur l) (F : Nat) (hFs : F = 99 ∨ F = 12 ∨ F = 168) (p : ByteArray → Bool) (hF : ∀ (s : ByteArray) (W : World), s.size ≤ 65536 → Calls Tryz.prog F #[.string s] W fun e W' => e = .returned (.bool (p s)) ∧ Kn W W') :
    Calls Tryz.prog 98 #[.pointer (some ⟨b, 0, none⟩), .func (.func F) #[] #[]] w (PzQ (litP p l) (Kb b w) (OfK w b g cur l)) := by
  obtain ⟨R, hR⟩ : ∃ R, R = litP p l := ⟨_, rfl⟩
  rw [← hR]
  unfold litP at hR
  have HR := Lib.hid hR
  have H := Lib.hid h
  have HC := Lib.hid fun (w' : World) (k : Kn w w') => next_any (h.kn k)
  have HF := Lib.hid fun (W : World) => hF (hdW l).t W h.gd.hd.t
  have f2 := fld2
  generalize hx : hdW l = x at *
  clear h hF hR
  rcases hFs with rfl | rfl | rfl
  all_goals
    go_enter Tryz.func98, Tryz.ntmps98
    go_wp2_with fail
    refine (HC.out _ ((Kp.refl _ w).alloc _)).mono ?_
    rintro e w1 ⟨rfl, hk⟩
    have HW := Lib.hid (Blk.kp (Blk.new w 73 #[.int .i64 0, .int .i64 0, .string ⟨#[]⟩, .int .i64 0]) hk (fun f => f))
    have HK := Lib.hid (((Kp.refl _ w).alloc _).trans hk)
    clear hk
    unfold wV
    go_wp2_with fail
    refine (HF.out w1).mono ?_
    rintro e w2 ⟨rfl, hk⟩
    have HW2 := Lib.hid (HW.out.kp hk (fun f => f))
    have HK2 := Lib.hid (HK.out.trans hk)
    clear hk HW HK
    cases hp : p x.t
    · rw [hp] at HR
      have HP := Lib.hid (refuse_any (H.out.kn HK2.out))
      rw [hx] at HP
      go_wp2_with fail
      refine HP.out.mono ?_
      rintro e w3 ⟨rfl, hk⟩
      have HK3 := Lib.hid (HK2.out.trans hk)
      clear hk
      unfold Stp
      go_wp2_with fail
      rw [HR.out]
      unfold refuse
      simp only [hx, Bool.false_eq_true, if_false]
      exact ⟨rfl, rfl, Kn.kb HK3.out b⟩
    · rw [hp] at HR
      have HP := Lib.hid (of_any (H.out.kn HK2.out) 3 (by decide))
      have hR2 : R = ofP 3 l := by rw [HR.out]; rfl
      rw [← hR2] at HP
      have hbw := H.out.lt
      have hgw := H.out.gb.lt
      clear hR2 HR hp
      go_wp2_with fail
      refine HP.out.mono ?_
      intro e w3 hq
      cases R with
      | no q c =>
        obtain ⟨rfl, hk⟩ := hq
        have HK3 := Lib.hid ((Kn.kb HK2.out b).trans hk)
        clear hk
        unfold Stp stopV
        go_wp2_with fail
        exact ⟨rfl, rfl, HK3.out⟩
      | ok y l' =>
        obtain ⟨v, rfl, rfl, rfl, rfl, hp3, hk3⟩ := hq
        rw [hx]
        have HP3 := Lib.hid hp3
        have HW3 := Lib.hid (HW2.out.kp hk3 (by omega))
        have HK3 := Lib.hid ((HK2.out.mono fun _ f => f.elim : Kb b w w2).trans hk3)
        obtain ⟨m0, m1, m2, m3, y0, y1, y2, y3⟩ := HW3.out.four_
        clear hp3 hk3
        unfold wV
        go_wp2_with fail
        have P1 := Lib.hid (HP3.out.kp (Kp.put4 (S := fun k => k = w.heap.size) (Kp.refl _ w3) (fun _ => rfl) (.int .i64 x.k) (.int .i64 x.p) (.string x.t) (.int .i64 x.n)) (by omega) (by omega))
        have K1 := Lib.hid (Kp.put4 HK3.out (q := w.heap.size) (fun h => by omega) (.int .i64 x.k) (.int .i64 x.p) (.string x.t) (.int .i64 x.n))
        obtain ⟨z0, z1, z2, z3, _⟩ := (HW3.out.put4 (.int .i64 x.k) (.int .i64 x.p) (.string x.t) (.int .i64 x.n)).four_
        generalize World.setCell (World.setCell (World.setCell (World.setCell w3 _ _) _ _) _ _) _ _ = wz at *
        refine bodyPost_ret (v := wV x) (by simp [results, Tryz.results98, go_sem, wV, z0, z1, z2, z3]) rfl ⟨_, rfl, rfl, rfl, congrArg wV hx.symm, P1.out, K1.out⟩
set_option maxRecDepth 100000 in
set_option maxHeartbeats 1000000 in
theorem empty_any (h : Ps w b g cur l) (hs : sayW l = kSemi) : Calls Tryz.prog 147 #[.pointer (some ⟨b, 0, none⟩)] w fun e w' => e = .returned (.tuple #[]) ∧ Ps w' b g cur l.tail ∧ Kb b w w' := by
  have hbw := h.lt
  have HC := Lib.hid fun (W : World) (k : Kn w W) (hB : Blk W w.heap.size 9 #[.string kSemi]) => expect_any [kSemi] (by decide) (h.kn k) w.heap.size hB (by omega) (by decide)
  rw [expP, if_pos hs, expP] at HC
  clear h hs
  go_enter Tryz.func147, Tryz.ntmps147
  go_wp2_with fail
  refine (HC.out _ ((Kp.refl _ w).alloc _) (Blk.new w 9 _)).mono ?_
  rintro e w1 ⟨v, rfl, rfl, hp, hk⟩
  have HK := Lib.hid ((Kn.kb ((Kp.refl _ w).alloc _) b).trans hk)
  have HP := Lib.hid hp
  clear hp hk
  go_wp2_with fail
  go_end0
  exact ⟨rfl, HP.out, HK.out⟩
end
end
section
open Go.RowKit
set_option linter.unusedVariables false
set_option linter.unusedSimpArgs false

section
variable {w : World} {b g : Nat} {cur : Array Value} {l : List Wd}
/-- What number answers. -/
def NmK (w : World) (b g : Nat) (cur : Array Value) : Int → List Wd → Value → World → Prop :=
  fun n l' v w' => v = .int .i64 n ∧ Ps w' b g cur l' ∧ Kb b w w' ∧ -2147483648 ≤ n ∧ n ≤ 2147483648
set_option maxRecDepth 100000 in
set_option maxHeartbeats 1000000 in
theorem number_any (h : Ps w b g cur l) (sg : Bool) : Calls Tryz.prog 233 #[.pointer (some ⟨b, 0, none⟩), .bool sg] w (PzQ (numP sg l) (Kb b w) (NmK w b g cur)) := by
  obtain ⟨R, hR⟩ : ∃ R, R = numP sg l := ⟨_, rfl⟩
  rw [← hR]
  unfold numP at hR
  have f3 := fld3
  have plain : ∀ (W : World) (hk : Kb b w W) (hp : Ps W b g cur l) (hq : ¬ (sg = true ∧ sayW l = kMinus)), Calls Tryz.prog 146 #[.pointer (some ⟨b, 0, none⟩), .int .i64 2] W (PzQ (ofP 2 l) (Kb b W) (OfK W b g cur l)) :=
    fun W _ hp _ => of_any hp 2 (by decide)
  cases sg
  · rw [if_neg (by simp)] at hR
    have HC := Lib.hid (of_any h 2 (by decide))
    have hwd := h.gd.hd
    clear h plain
    go_enter Tryz.func233, Tryz.ntmps233
    go_wp2_with fail
    refine HC.out.mono ?_
    intro e w1 hq
    cases hr : ofP 2 l with
    | no q c =>
      rw [hr] at hq hR
      obtain ⟨rfl, hk⟩ := hq
      have HK := Lib.hid hk
      have HR := Lib.hid hR
      clear hk hR hr
      unfold Stp stopV
      go_wp2_with fail
      try rw [HR.out]
      exact ⟨rfl, rfl, HK.out⟩
    | ok y l' =>
      rw [hr] at hq hR
      obtain ⟨v, rfl, rfl, rfl, rfl, hp, hk⟩ := hq
      have HP := Lib.hid hp
      have HK := Lib.hid hk
      have HR := Lib.hid hR
      have HN := Lib.hid hwd
      generalize hx : hdW l = x at *
      clear hp hk hR hr hx hwd
      unfold wV
      go_wp2_with fail
      rw [HR.out]
      go_ret
      exact ⟨_, rfl, rfl, HP.out, HK.out, by have := HN.out.n0; omega, HN.out.n1⟩
  · have HT := Lib.hid (takes_any h kMinus (by decide))
    clear h
    have HPL := Lib.hid plain
    have HR0 := Lib.hid hR
    clear plain hR
    go_enter Tryz.func233, Tryz.ntmps233
    go_wp2_with fail
    refine HT.out.mono ?_
    rintro e w1 ⟨h1, hk1⟩
    have HK1 := Lib.hid hk1
    clear hk1
    rcases h1 with ⟨hq, rfl, hp1, hg1⟩ | ⟨hq, rfl, hp1⟩
    · have hR := HR0.out
      rw [if_pos ⟨by simp, hq⟩] at hR
      have HC := Lib.hid (of_any hp1 2 (by decide))
      have hwd := hg1.hd
      clear hp1 hg1 hq
      go_wp2_with fail
      refine HC.out.mono ?_
      intro e w2 hq
      cases hr : ofP 2 l.tail with
      | no q c =>
        rw [hr] at hq hR
        obtain ⟨rfl, hk⟩ := hq
        have HK := Lib.hid hk
        have HR := Lib.hid hR
        clear hk hR hr
        unfold Stp stopV
        go_wp2_with fail
        try rw [HR.out]
        exact ⟨rfl, rfl, HK1.out.trans HK.out⟩
      | ok y l' =>
        rw [hr] at hq hR
        obtain ⟨v, rfl, rfl, rfl, rfl, hp, hk⟩ := hq
        have HP := Lib.hid hp
        have HK := Lib.hid hk
        have HR := Lib.hid hR
        have HN := Lib.hid hwd
        have e1 : IntKind.i64.wrap (-(hdW l.tail).n) = -(hdW l.tail).n := IntWalk.i64_in _ (by have := hwd.n0; have := hwd.n1; omega)
        generalize hx : hdW l.tail = x at *
        clear hp hk hR hr hx hwd
        unfold wV
        go_wp2_with fail
        rw [HR.out]
        go_ret
        exact ⟨_, rfl, rfl, HP.out, HK1.out.trans HK.out, by have := HN.out.n1; omega, by have := HN.out.n0; omega⟩
    · have hR := HR0.out
      rw [if_neg (fun k => hq k.2)] at hR
      have HC := Lib.hid (HPL.out w1 HK1.out hp1 (fun k => hq k.2))
      have hwd := hp1.gd.hd
      clear hp1 hq
      go_wp2_with fail
      refine HC.out.mono ?_
      intro e w2 hq
      cases hr : ofP 2 l with
      | no q c =>
        rw [hr] at hq hR
        obtain ⟨rfl, hk⟩ := hq
        have HK := Lib.hid hk
        have HR := Lib.hid hR
        clear hk hR hr
        unfold Stp stopV
        go_wp2_with fail
        try rw [HR.out]
        exact ⟨rfl, rfl, HK1.out.trans HK.out⟩
      | ok y l' =>
        rw [hr] at hq hR
        obtain ⟨v, rfl, rfl, rfl, rfl, hp, hk⟩ := hq
        have HP := Lib.hid hp
        have HK := Lib.hid hk
        have HR := Lib.hid hR
        have HN := Lib.hid hwd
        generalize hx : hdW l = x at *
        clear hp hk hR hr hx hwd
        unfold wV
        go_wp2_with fail
        rw [HR.out]
        go_ret
        exact ⟨_, rfl, rfl, HP.out, HK1.out.trans HK.out, by have := HN.out.n0; omega, HN.out.n1⟩
end
end
section
open Go.RowKit
set_option linter.unusedVariables false
set_option linter.unusedSimpArgs false

theorem Tryz.info5 : (Tryz.prog.info? 5).map (fun i => (i.zero, i.size, i.bytes)) = some (some (.int .u8 0), 1, 1) := by kernel_rfl
theorem Tryz.underlying165 : Tryz.prog.underlying 165 = some (.slice 5) := by kernel_rfl
theorem Tryz.underlying9 : Tryz.prog.underlying 9 = some .string := by kernel_rfl
section
variable {P : Program} (w : World)
theorem wpList_append_s {ops : Array Oper} {rest : List Oper} {o : Oper} {a : Act} {Q : Exit → Act → World → Prop} (hgd : o.guard = none) (sl x : Operand) (t u : TypeId)
    (ho : o.op = .call { callee := .builtin .append, args := #[sl, x], argTypes := #[t, u] })
    (i : TypeInfo) (ht : P.underlying t = some (.slice 5)) (hu : P.underlying u = some .string) (hi : P.info? 5 = some i) (hz : i.zero = some (.int .u8 0)) (hsize : i.size = 1) (hby : i.bytes = 1)
    (base : Nat) (v : Value) (l : List UInt8) (hs : a.eval sl = v) (hown : Own w base v l) (s : ByteArray) (hx : a.eval x = .string s) (hlen : l.length + s.size ≤ 140737488355328) (hbase : base ≤ w.heap.size)
    (h : ∀ v' w', Own w' base v' (l ++ s.data.toList) → w.grownBy w' v.ownBlock → wpList P ops Q rest (a.put o.dst v') w') : wpList P ops Q (o :: rest) a w := by
  refine Lib.wpList_append_own_string w hgd sl x t u ho base 5 i ht hu hi hz hsize hby v l.length (Lib.byteCells l) hs hown s hx (by unfold maxLen; omega) hlen hbase fun v' w' h2 h3 _ => h v' w' ?_ h3
  unfold Own
  rw [Lib.byteCells_append, List.length_append]
  have e : s.data.toList.length = s.size := by simp
  rw [e]
  exact h2
end
theorem Tryz.underlying5 : Tryz.prog.underlying 5 = some (.int .u8) := by kernel_rfl
theorem addB_mk (l : List UInt8) (s : ByteArray) : addB ⟨l.toArray⟩ s = ⟨(l ++ s.data.toList).toArray⟩ := by simp [addB]
theorem addB_dot (l : List UInt8) : addB ⟨l.toArray⟩ kDot = ⟨(l ++ [46]).toArray⟩ := addB_mk l kDot
/-- What full does at the end. -/
def fin_ (at_ : Nat) (b : ByteArray) (l : List Wd) : Pz ByteArray := if 128 < b.size then .no at_ 5 else .ok b l
section
variable {w : World} {b g : Nat} {cur : Array Value} {l : List Wd}
/-- The loop of full. -/
structure FuR (w : World) (b g : Nat) (cur : Array Value) (B : Nat) (R : Pz ByteArray) (at_ : Nat) (v : Value) (acc : List UInt8) (l : List Wd) (wr : World) : Prop where
  own : Own wr B v acc
  ps : Ps wr b g cur l
  len : acc.length + 70000 * l.length ≤ 7100000000
  kp : Kp (fun k => k = b ∨ B ≤ k) w wr
  fin : ∃ n, l.length < n ∧ R = (dotsF n ⟨acc.toArray⟩ l).and (fin_ at_)
abbrev Kc (b B : Nat) (w w' : World) : Prop := Kp (fun k => k = b ∨ B ≤ k) w w'
set_option maxRecDepth 100000 in
set_option maxHeartbeats 1000000 in
theorem full_any (h : Ps w b g cur l) (B : Nat) (hB : B ≤ w.heap.size) (hbB : b < B) (hgB : g < B) (v0 : Value) (st : List UInt8) (ho : Own w B v0 st) (hst : st.length ≤ 100) (at_ : Nat) :
    Calls Tryz.prog 176 #[.pointer (some ⟨b, 0, none⟩), v0, .int .i64 at_] w (PzQ (fullP ⟨st.toArray⟩ at_ l) (Kc b B w) fun s l' v w' => v = .string s ∧ Ps w' b g cur l' ∧ Kc b B w w') := by
  obtain ⟨i0, hi0, hz0, hz1, hz2⟩ := info_parts Tryz.info5
  obtain ⟨R, hR⟩ : ∃ R, R = fullP ⟨st.toArray⟩ at_ l := ⟨_, rfl⟩
  rw [← hR]
  have HR := Lib.hid hR
  have HC := Lib.hid (of_any h 1 (by decide))
  have HO := Lib.hid ho
  obtain ⟨A, n, c, rfl⟩ := ho.val
  have f2 := fld2
  have hwd := h.gd.hd
  clear h hR ho
  go_enter Tryz.func176, Tryz.ntmps176
  go_wp2_with fail
  refine HC.out.mono ?_
  intro e w1 hq
  cases hr : ofP 1 l with
  | no q c =>
    rw [hr] at hq
    obtain ⟨rfl, hk⟩ := hq
    have HK := Lib.hid hk
    have HR2 := Lib.hid (show R = .no q c by rw [HR.out]; unfold fullP; rw [hr]; rfl)
    clear hk hr HR
    unfold Stp stopV
    go_wp2_with fail
    rw [HR2.out]
    exact ⟨rfl, rfl, HK.out.mono fun _ e _ => .inl e⟩
  | ok y l1 =>
    rw [hr] at hq
    obtain ⟨v, rfl, rfl, rfl, rfl, hp, hk⟩ := hq
    have HR2 := Lib.hid (show R = (dotsF (l.tail.length + 1) ⟨(st ++ (hdW l).t.data.toList).toArray⟩ l.tail).and (fin_ at_) by rw [HR.out, ← addB_mk]; unfold fullP; rw [hr]; rfl)
    have HP := Lib.hid hp
    have HK := Lib.hid hk
    have HO1 := Lib.hid (HO.out.kept (w' := w1) fun g' hg => hk.block g' (HO.out.lt hg).2 (by have := (HO.out.lt hg).1; omega))
    have hB1 : B ≤ w1.heap.size := by have := hk.size; omega
    have hs1 : st.length + (hdW l).t.size ≤ 140737488355328 := by have := hwd.t; omega
    generalize hx : hdW l = x at *
    clear hp hk hr HR HO HC
    unfold wV
    have hbo : ∀ q, (Value.slice A n c).ownBlock = some q → B ≤ q := fun q hq => (HO1.out.lt hq).1
    have HBO := Lib.hid hbo
    have HLN := Lib.hid (show st.length + x.t.size + 70000 * l.tail.length ≤ 7100000000 by have := HP.out.few; have := hwd.t; omega)
    have HPF := Lib.hid (show l.tail.length < l.tail.length + 1 by omega)
    clear hbo
    go_wp2_with (at_builtin; refine wpList_append_s _ rfl _ _ 165 9 rfl i0 Tryz.underlying165 Tryz.underlying9 hi0 hz0 hz1 hz2 B _ st rfl HO1.out x.t rfl hs1 hB1 ?_; intro v5 w5 ho5 hg5; have HST := Lib.hid (FuR.mk (w := w) (at_ := at_) ho5 (HP.out.kp (Kp.of_grown hg5) (fun e => by have := HBO.out b e.symm; omega) (fun e => by have := HBO.out g e.symm; omega)) (by simpa using HLN.out) (((HK.out.mono fun _ e _ => Or.inl e : Kp (fun k => k = b ∨ B ≤ k) w w1)).grown hg5 fun q hq _ => Or.inr (HBO.out q hq)) ⟨_, HPF.out, HR2.out⟩); clear ho5 hg5)
    clear HO1 hB1 hs1 HLN HPF HR2 HP HBO hwd
    go_loopg [7] (l.tail.length + 1) (fun gg v wr => ∃ (acc : List UInt8) (l' : List Wd), gg = l'.length + 1 ∧ FuR w b g cur B R at_ v acc l' wr)
    case atStart => exact ⟨_, _, rfl, HST.out⟩
    case round =>
      clear HST
      obtain ⟨acc, l', rfl, hrel⟩ := hrel
      have HREL := Lib.hid hrel
      have HT := Lib.hid (takes_any hrel.ps kDot (by decide))
      obtain ⟨fn, hfn, hfin⟩ := hrel.fin
      obtain ⟨fn, rfl⟩ : ∃ k, fn = k + 1 := ⟨fn - 1, by omega⟩
      rw [dotsF] at hfin
      have HFIN := Lib.hid hfin
      have hBr : B ≤ wr.heap.size := by have := hrel.kp.size; omega
      clear hfin hrel
      go_wp2_with fail
      refine HT.out.mono ?_
      rintro e w2 ⟨h1, hk1⟩
      have HK1 := Lib.hid hk1
      have hB2 : B ≤ w2.heap.size := by have := hk1.size; omega
      have HOW := Lib.hid (HREL.out.own.kept (w' := w2) fun q hq => hk1.block q (HREL.out.own.lt hq).2 (by have := (HREL.out.own.lt hq).1; omega))
      obtain ⟨A2, n2, c2, rfl⟩ := HOW.out.val
      have HBO := Lib.hid (show ∀ q, (Value.slice A2 n2 c2).ownBlock = some q → B ≤ q from fun q hq => (HOW.out.lt hq).1)
      clear hk1
      rcases h1 with ⟨hq, rfl, hp1, hg1⟩ | ⟨hq, rfl, hp1⟩
      · have HP1 := Lib.hid hp1
        have HFI2 := Lib.hid (show R = ((ofP 1 l'.tail).and fun w l => dotsF fn (addB (addB ⟨acc.toArray⟩ kDot) w.t) l).and (fin_ at_) by rw [HFIN.out, if_pos hq])
        have hln := HREL.out.ps.gd.len
        have hln2 := hg1.len
        have hal : acc.length + 1 ≤ 140737488355328 := by have := HREL.out.len; omega
        have HKR := Lib.hid (HREL.out.kp.trans (HK1.out.mono fun _ e _ => Or.inl e : Kp (fun k => k = b ∨ B ≤ k) wr w2))
        have HLE := Lib.hid HREL.out.len
        clear hp1 hg1 hq HFIN HREL
        go_wp2_with (at_builtin; refine wpList_append_bs _ rfl _ _ 165 rfl i0 Tryz.underlying165 hi0 hz0 hz1 hz2 B _ acc rfl (HOW.out.alloc _) _ _ _ _ _ _ rfl (Bs.single _ 46 (by omega) (by omega)) hal (by simp; omega) ?_; intro v3 w3 ho3 hg3; have HO3 := Lib.hid ho3; have HG3 := Lib.hid hg3; clear ho3 hg3)
        have HP3 := Lib.hid ((HP1.out.alloc (.cells #[.int .u8 46] 5)).kp (Kp.of_grown HG3.out.1) (fun e => by have := HBO.out b e.symm; omega) (fun e => by have := HBO.out g e.symm; omega))
        have HK3 := Lib.hid ((HKR.out.alloc (.cells #[.int .u8 46] 5)).grown HG3.out.1 fun q hq _ => Or.inr (HBO.out q hq))
        have HC2 := Lib.hid (of_any HP3.out 1 (by decide))
        have hB3 : B ≤ w3.heap.size := by have := HG3.out.1.size; simp at this; omega
        have hwd := HP3.out.gd.hd
        obtain ⟨A3, n3, c3, rfl⟩ := HO3.out.val
        clear HG3 HP1 HKR HBO HOW
        refine HC2.out.mono ?_
        intro e w4 hq
        cases hr : ofP 1 l'.tail with
        | no q c =>
          rw [hr] at hq
          obtain ⟨rfl, hk⟩ := hq
          have HK4 := Lib.hid (HK3.out.trans (hk.mono fun _ e _ => Or.inl e : Kp (fun k => k = b ∨ B ≤ k) w3 w4))
          have HR2 := Lib.hid (show R = .no q c by rw [HFI2.out, hr]; rfl)
          clear hk hr HFI2 HC2
          unfold Stp stopV
          go_wp2_with fail
          rw [HR2.out]
          exact ⟨rfl, rfl, HK4.out⟩
        | ok y l1 =>
          rw [hr] at hq
          obtain ⟨v, rfl, rfl, rfl, rfl, hp, hk⟩ := hq
          have HR2 := Lib.hid (show R = (dotsF fn ⟨(acc ++ [46] ++ (hdW l'.tail).t.data.toList).toArray⟩ l'.tail.tail).and (fin_ at_) by rw [HFI2.out, hr, addB_dot, ← addB_mk]; rfl)
          have HP := Lib.hid hp
          have HK4 := Lib.hid (HK3.out.trans (hk.mono fun _ e _ => Or.inl e : Kp (fun k => k = b ∨ B ≤ k) w3 w4))
          have HO4 := Lib.hid (HO3.out.kept (w' := w4) fun q hq => hk.block q (HO3.out.lt hq).2 (by have := (HO3.out.lt hq).1; omega))
          have hB4 : B ≤ w4.heap.size := by have := hk.size; omega
          have hs4 : (acc ++ [46]).length + (hdW l'.tail).t.size ≤ 140737488355328 := by have := hwd.t; have := HLE.out; simp; omega
          have HBO := Lib.hid (show ∀ q, (Value.slice A3 n3 c3).ownBlock = some q → B ≤ q from fun q hq => (HO4.out.lt hq).1)
          have HLN := Lib.hid (show (acc ++ [46] ++ (hdW l'.tail).t.data.toList).length + 70000 * l'.tail.tail.length ≤ 7100000000 by
            have := hwd.t; have := HLE.out; have e5 : (hdW l'.tail).t.data.toList.length = (hdW l'.tail).t.size := by simp
            simp only [List.length_append, e5, List.length_cons, List.length_nil]; omega)
          have HFN := Lib.hid (show l'.tail.tail.length < fn by omega)
          have HM := Lib.hid (show l'.tail.tail.length + 1 < l'.length + 1 by omega)
          generalize hx2 : hdW l'.tail = x2 at *
          clear hp hk hr HFI2 HC2 hln hln2 hfn HO3 HP3 HK3 HLE hal
          unfold wV
          go_wp2_with (at_builtin; refine wpList_append_s _ rfl _ _ 165 9 rfl i0 Tryz.underlying165 Tryz.underlying9 hi0 hz0 hz1 hz2 B _ (acc ++ [46]) rfl HO4.out x2.t rfl hs4 hB4 ?_; intro v6 w6 ho6 hg6; have HST := Lib.hid (FuR.mk (w := w) (at_ := at_) ho6 (HP.out.kp (Kp.of_grown hg6) (fun e => by have := HBO.out b e.symm; omega) (fun e => by have := HBO.out g e.symm; omega)) HLN.out (HK4.out.grown hg6 fun q hq _ => Or.inr (HBO.out q hq)) ⟨_, HFN.out, HR2.out⟩); clear ho6 hg6)
          go_roundg (l'.tail.tail.length + 1)
          case measure => exact HM.out
          case rel => exact ⟨_, _, rfl, HST.out⟩
      · have hfi2 : R = fin_ at_ ⟨acc.toArray⟩ l' := by rw [HFIN.out, if_neg hq]; rfl
        unfold fin_ at hfi2
        have e6 : (⟨acc.toArray⟩ : ByteArray).size = acc.length := by simp [ByteArray.size]
        rw [e6] at hfi2
        have HKR := Lib.hid (HREL.out.kp.trans (HK1.out.mono fun _ e _ => Or.inl e : Kp (fun k => k = b ∨ B ≤ k) wr w2))
        have HP1 := Lib.hid hp1
        obtain ⟨A2', c2', hv, _⟩ := HOW.out.bs
        simp only [Value.slice.injEq] at hv
        obtain ⟨rfl, rfl, rfl⟩ := hv
        have hcv := HOW.out.toBs.convert (P := Tryz.prog) 165 5 9 Tryz.underlying165 Tryz.underlying5 Tryz.underlying9
        by_cases h128 : 128 < acc.length
        · rw [if_pos h128] at hfi2
          have HR2 := Lib.hid hfi2
          have h128' : (128 : Int) < (acc.length : Int) := by omega
          clear hfi2 hp1 hq HFIN HREL h128 hcv
          go_wp2_with fail
          rw [HR2.out]
          exact ⟨rfl, rfl, HKR.out⟩
        · rw [if_neg h128] at hfi2
          have HR2 := Lib.hid hfi2
          have h128' : ¬ (128 : Int) < (acc.length : Int) := by omega
          clear hfi2 hp1 hq HFIN HREL h128
          go_wp2_with fail
          rw [HR2.out]
          go_ret
          exact ⟨_, rfl, rfl, HP1.out, HKR.out⟩
end
end
section
open Go.RowKit
set_option linter.unusedVariables false
set_option linter.unusedSimpArgs false

section
variable {w : World} {b g : Nat} {cur : Array Value} {l : List Wd}
theorem Kc.kb {w w' : World} {b : Nat} (h : Kc b w.heap.size w w') : Kb b w w' := h.mono fun i s hi => by rcases s with e | e; exact e; omega
theorem Kc.from_ {w0 w w' : World} {b B : Nat} (h0 : Kb b w0 w) (h : Kc b B w w') (hB : w0.heap.size ≤ B) : Kb b w0 w' := h0.trans' h fun i s hi => by rcases s with e | e; exact e; omega
/-- What name answers. -/
def NaK (w : World) (b g : Nat) (cur : Array Value) (at_ : Nat) : ByteArray → List Wd → Value → World → Prop :=
  fun s l' v w' => v = .tuple #[.string s, .int .i64 at_] ∧ Ps w' b g cur l' ∧ Kb b w w'
set_option maxRecDepth 100000 in
set_option maxHeartbeats 1000000 in
theorem name_any (h : Ps w b g cur l) : Calls Tryz.prog 234 #[.pointer (some ⟨b, 0, none⟩)] w (PzQ (nameP l) (Kb b w) (NaK w b g cur (hdW l).p)) := by
  obtain ⟨i0, hi0, hz0, hz1, hz2⟩ := info_parts Tryz.info5
  obtain ⟨R, hR⟩ : ∃ R, R = nameP l := ⟨_, rfl⟩
  rw [← hR]
  unfold nameP at hR
  have HR := Lib.hid hR
  have H := Lib.hid h
  have HC := Lib.hid (next_any h)
  have f1 := fld1
  have hbw := h.lt
  have hgw := h.gb.lt
  generalize hx : hdW l = x at *
  clear h hR
  go_enter Tryz.func234, Tryz.ntmps234
  go_wp2_with fail
  refine HC.out.mono ?_
  rintro e w1 ⟨rfl, hk1⟩
  have HK1 := Lib.hid hk1
  have HT := Lib.hid (takes_any (H.out.kn hk1) kDot (by decide))
  have hsz1 := hk1.size
  clear hk1 HC
  unfold wV
  go_wp2_with fail
  refine HT.out.mono ?_
  rintro e w2 ⟨h1, hk2⟩
  have HK2 := Lib.hid ((Kn.kb HK1.out b).trans hk2)
  have hsz2 : w.heap.size ≤ w2.heap.size := by have := hk2.size; omega
  clear hk2
  rcases h1 with ⟨hq, rfl, hp2, hg2⟩ | ⟨hq, rfl, hp2⟩
  · have HR2 := Lib.hid (show R = fullP ⟨[46].toArray⟩ x.p l.tail by rw [HR.out, if_pos hq])
    have HP2 := Lib.hid hp2
    clear hq hp2 hg2 HR
    go_wp2_with (at_builtin; refine wpList_append_bs _ rfl _ _ 165 rfl i0 Tryz.underlying165 hi0 hz0 hz1 hz2 w.heap.size _ [] rfl (Own.nil _ _) _ _ _ _ _ _ rfl (Bs.single _ 46 (by omega) (by omega)) (by simp) (by simp; omega) ?_; intro v3 w3 ho3 hg3; have HO3 := Lib.hid ho3; have HG3 := Lib.hid hg3; clear ho3 hg3)
    have HP3 := Lib.hid ((HP2.out.alloc (.cells #[.int .u8 46] 5)).kp (Kp.of_grown HG3.out.1) (fun e => by cases e) (fun e => by cases e))
    have HK3 := Lib.hid ((HK2.out.alloc (.cells #[.int .u8 46] 5)).grown HG3.out.1 fun q hq _ => by cases hq)
    have hB3 : w.heap.size ≤ w3.heap.size := HK3.out.size
    obtain ⟨A3, n3, c3, rfl⟩ := HO3.out.val
    have HF := Lib.hid (full_any HP3.out w.heap.size hB3 hbw hgw _ [46] HO3.out (by decide) x.p)
    rw [← HR2.out] at HF
    clear HG3 HP2 HP3 HO3
    refine HF.out.mono ?_
    intro e w4 hq
    cases R with
    | no q c =>
      obtain ⟨rfl, hk⟩ := hq
      have HK4 := Lib.hid (Kc.from_ HK3.out hk (Nat.le_refl _))
      clear hk
      unfold Stp stopV
      go_wp2_with fail
      exact ⟨rfl, rfl, HK4.out⟩
    | ok s l' =>
      obtain ⟨v, rfl, rfl, hp, hk⟩ := hq
      have HK4 := Lib.hid (Kc.from_ HK3.out hk (Nat.le_refl _))
      have HP4 := Lib.hid hp
      clear hk hp
      go_wp2_with fail
      refine bodyPost_ret (v := .tuple #[.string s, .int .i64 x.p]) (by simp [results, Tryz.results234, go_sem]) rfl ⟨_, rfl, rfl, HP4.out, HK4.out⟩
  · have HR2 := Lib.hid (show R = fullP ⟨[].toArray⟩ x.p l by rw [HR.out, if_neg hq])
    have HF := Lib.hid (full_any hp2 w.heap.size hsz2 hbw hgw _ [] (Own.nil _ _) (by decide) x.p)
    rw [← HR2.out] at HF
    clear hq hp2 HR
    go_wp2_with fail
    refine HF.out.mono ?_
    intro e w4 hq
    cases R with
    | no q c =>
      obtain ⟨rfl, hk⟩ := hq
      have HK4 := Lib.hid (Kc.from_ HK2.out hk (Nat.le_refl _))
      clear hk
      unfold Stp stopV
      go_wp2_with fail
      exact ⟨rfl, rfl, HK4.out⟩
    | ok s l' =>
      obtain ⟨v, rfl, rfl, hp, hk⟩ := hq
      have HK4 := Lib.hid (Kc.from_ HK2.out hk (Nat.le_refl _))
      have HP4 := Lib.hid hp
      clear hk hp
      go_wp2_with fail
      refine bodyPost_ret (v := .tuple #[.string s, .int .i64 x.p]) (by simp [results, Tryz.results234, go_sem]) rfl ⟨_, rfl, rfl, HP4.out, HK4.out⟩
end
end
section
open Go.RowKit
set_option linter.unusedVariables false
set_option linter.unusedSimpArgs false

theorem Blk.three_ {w : World} {q : Nat} {t : TypeId} {a1 a2 a3 : Value} (h : Blk w q t #[a1, a2, a3]) : w.cell? ⟨q, 0, none⟩ = some a1 ∧ w.cell? ⟨q, 1, none⟩ = some a2 ∧ w.cell? ⟨q, 2, none⟩ = some a3 ∧
    w.frozen? ⟨q, 0, none⟩ = false ∧ w.frozen? ⟨q, 1, none⟩ = false ∧ w.frozen? ⟨q, 2, none⟩ = false :=
  ⟨h.cell 0, h.cell 1, h.cell 2, h.frozen 0, h.frozen 1, h.frozen 2⟩
theorem Blk.put3 {w : World} {q : Nat} {t : TypeId} {a1 a2 a3 : Value} (h : Blk w q t #[a1, a2, a3]) (u1 u2 u3 : Value) : Blk (((w.setCell ⟨q, 0, none⟩ u1).setCell ⟨q, 1, none⟩ u2).setCell ⟨q, 2, none⟩ u3) q t #[u1, u2, u3] :=
  ((h.set_ 0 u1).set_ 1 u2).set_ 2 u3
theorem Kp.put3 {S : Nat → Prop} {a w : World} (h : Kp S a w) {q : Nat} (hq : q < a.heap.size → S q) (u1 u2 u3 : Value) : Kp S a (((w.setCell ⟨q, 0, none⟩ u1).setCell ⟨q, 1, none⟩ u2).setCell ⟨q, 2, none⟩ u3) :=
  ((h.setCell hq u1).setCell hq u2).setCell hq u3
theorem Blk.two_ {w : World} {q : Nat} {t : TypeId} {a1 a2 : Value} (h : Blk w q t #[a1, a2]) : w.cell? ⟨q, 0, none⟩ = some a1 ∧ w.cell? ⟨q, 1, none⟩ = some a2 ∧ w.frozen? ⟨q, 0, none⟩ = false ∧ w.frozen? ⟨q, 1, none⟩ = false :=
  ⟨h.cell 0, h.cell 1, h.frozen 0, h.frozen 1⟩
section
variable {w : World} {b g : Nat} {cur : Array Value} {l : List Wd}
def Sp.v (x : Sp) : Value := .agg #[.int .i64 x.lo, .int .i64 x.hi, .int .i64 x.at_]
/-- What span answers. -/
def SpK (w : World) (b g : Nat) (cur : Array Value) : Sp → List Wd → Value → World → Prop :=
  fun x l' v w' => v = x.v ∧ Ps w' b g cur l' ∧ Kb b w w'
/-- On the way through span. -/
structure SpS (w : World) (b g : Nat) (cur : Array Value) (max : Int) (sg : Bool) (l : List Wd) (w' : World) : Prop where
  ps : Ps w' b g cur l
  kp : Kb b w w'
  b1 : Blk w' w.heap.size 262 #[.int .i64 max, .bool sg]
  b2 : Blk w' (w.heap.size + 1) 126 #[.int .i64 0, .int .i64 0, .int .i64 0]
  lt : b < w.heap.size
  lg : g < w.heap.size
theorem SpS.next {max : Int} {sg : Bool} {l' : List Wd} {w1 w2 : World} (h : SpS w b g cur max sg l w1) (hp : Ps w2 b g cur l') (hk : Kb b w1 w2) : SpS w b g cur max sg l' w2 :=
  ⟨hp, h.kp.trans hk, h.b1.kp hk (by have := h.lt; omega), h.b2.kp hk (by have := h.lt; omega), h.lt, h.lg⟩
theorem SpS.drew {max : Int} {sg : Bool} {w1 : World} (h : SpS w b g cur max sg l w1) : SpS w b g cur max sg l w1.drew := ⟨⟨h.ps.pb, h.ps.gb, h.ps.ne, h.ps.gd, h.ps.few⟩, h.kp.drew, h.b1, h.b2, h.lt, h.lg⟩
theorem SpS.put {max : Int} {sg : Bool} {w1 : World} (h : SpS w b g cur max sg l w1) (u1 u2 u3 : Value) :
    Ps (((w1.setCell ⟨w.heap.size + 1, 0, none⟩ u1).setCell ⟨w.heap.size + 1, 1, none⟩ u2).setCell ⟨w.heap.size + 1, 2, none⟩ u3) b g cur l ∧ Kb b w (((w1.setCell ⟨w.heap.size + 1, 0, none⟩ u1).setCell ⟨w.heap.size + 1, 1, none⟩ u2).setCell ⟨w.heap.size + 1, 2, none⟩ u3) ∧
    Blk (((w1.setCell ⟨w.heap.size + 1, 0, none⟩ u1).setCell ⟨w.heap.size + 1, 1, none⟩ u2).setCell ⟨w.heap.size + 1, 2, none⟩ u3) (w.heap.size + 1) 126 #[u1, u2, u3] := by
  refine ⟨h.ps.kp (Kp.put3 (S := fun k => k = w.heap.size + 1) (Kp.refl _ w1) (fun _ => rfl) _ _ _) (by have := h.lt; omega) (by have := h.lg; omega), Kp.put3 h.kp (fun h => by omega) _ _ _, h.b2.put3 _ _ _⟩
set_option maxRecDepth 100000 in
set_option maxHeartbeats 1000000 in
theorem span_any (h : Ps w b g cur l) (max : Int) (sg : Bool) : Calls Tryz.prog 256 #[.pointer (some ⟨b, 0, none⟩), .agg #[.int .i64 max, .bool sg]] w (PzQ (spanP max sg l) (Kb b w) (SpK w b g cur)) := by
  obtain ⟨R, hR⟩ : ∃ R, R = spanP max sg l := ⟨_, rfl⟩
  rw [← hR]
  unfold spanP at hR
  have HR := Lib.hid hR
  have f1 := fld1
  have hS := Lib.hid (show SpS w b g cur max sg l ((w.alloc (.cells #[.int .i64 max, .bool sg] 262)).alloc (.cells #[.int .i64 0, .int .i64 0, .int .i64 0] 126)) from
    ⟨(h.alloc _).alloc _, ((Kp.refl _ w).alloc _).alloc _, (Blk.new w 262 _).alloc _, by have := Blk.new (w.alloc (.cells #[.int .i64 max, .bool sg] 262)) 126 #[.int .i64 0, .int .i64 0, .int .i64 0]; rwa [World.size_alloc] at this, h.lt, h.gb.lt⟩)
  clear h hR
  go_enter Tryz.func256, Tryz.ntmps256
  go_wp2_with fail
  refine (next_any hS.out.ps).mono ?_
  rintro e w1 ⟨rfl, hk1⟩
  have HS1 := Lib.hid (hS.out.next (hS.out.ps.kn hk1) (Kn.kb hk1 b))
  clear hk1 hS
  obtain ⟨m0, m1, y0, y1⟩ := HS1.out.b1.two_
  have HN := Lib.hid (number_any HS1.out.ps sg)
  generalize hx : hdW l = x at *
  unfold wV
  go_wp2_with fail
  refine HN.out.mono ?_
  intro e w2 hq
  clear HN m0 m1 y0 y1
  cases hr : numP sg l with
  | no q c =>
    rw [hr] at hq
    obtain ⟨rfl, hk⟩ := hq
    have HK2 := Lib.hid (HS1.out.kp.trans hk)
    have HR2 := Lib.hid (show R = .no q c by rw [HR.out, hr]; rfl)
    clear hk hr HR
    unfold Stp stopV
    go_wp2_with fail
    rw [HR2.out]
    exact ⟨rfl, rfl, HK2.out⟩
  | ok lo l2 =>
    rw [hr] at hq
    obtain ⟨v, rfl, rfl, hp, hk, _, _⟩ := hq
    have hR2 := HR.out
    rw [hr] at hR2
    simp only [Pz.and] at hR2
    have HR2 := Lib.hid hR2
    have HS2 := Lib.hid (HS1.out.next hp hk)
    have HT := Lib.hid (takes_any hp kTo (by decide))
    clear hp hk hr hR2 HR HS1
    go_wp2_with fail
    refine HT.out.mono ?_
    rintro e w3 ⟨h1, hk3⟩
    rcases h1 with ⟨hq, rfl, hp3, hg3⟩ | ⟨hq, rfl, hp3⟩
    · have hR3 := HR2.out
      rw [if_pos hq] at hR3
      have HR3 := Lib.hid hR3
      have HS3 := Lib.hid (HS2.out.next hp3 hk3)
      clear hR3 HR2 HS2 hq hp3 hk3 HT
      have hm3 : w3.cell? ⟨w.heap.size, 0, none⟩ = some (.int .i64 max) := HS3.out.b1.cell 0
      generalize hx2 : hdW l2.tail = x2 at *
      go_wp2_with fail
      go_region_held3 (fun w' => w'.cell? ⟨w.heap.size, 0, none⟩ = some (.int .i64 max)) (first | assumption | go_keep)
        ((go_at_call 101; refine (next_any HS3.out.drew.ps).mono ?_; rw [hx2]; rintro e w4 ⟨rfl, hk4⟩; have HS4 := Lib.hid (HS3.out.drew.next (HS3.out.drew.ps.kn hk4) (Kn.kb hk4 b)); have hm4 : w4.cell? ⟨w.heap.size, 0, none⟩ = some (.int .i64 max) := HS4.out.b1.cell 0; clear hk4; unfold wV))
      have HT := Lib.hid (takes_any HS4.out.ps kMax (by decide))
      clear HS3 hm3
      go_wp2_with fail
      refine HT.out.mono ?_
      rintro e w5 ⟨h1, hk5⟩
      rcases h1 with ⟨hq, rfl, hp5, hg5⟩ | ⟨hq, rfl, hp5⟩
      · have hR5 := HR3.out
        rw [if_pos hq] at hR5
        have HS5 := Lib.hid (HS4.out.next hp5 hk5)
        clear HR3 HS4 hq hp5 hk5 HT
        by_cases hlt : max < lo
        · rw [if_pos hlt] at hR5
          have HR5 := Lib.hid hR5
          clear hR5
          go_wp2_with fail
          rw [HR5.out]
          exact ⟨rfl, rfl, HS5.out.kp⟩
        · rw [if_neg hlt] at hR5
          have HR5 := Lib.hid hR5
          clear hR5
          obtain ⟨m0, m1, m2, y0, y1, y2⟩ := HS5.out.b2.three_
          go_wp2_with fail
          obtain ⟨P1, K1, B1⟩ := HS5.out.put (.int .i64 lo) (.int .i64 max) (.int .i64 x.p)
          have P1 := Lib.hid P1
          have K1 := Lib.hid K1
          obtain ⟨z0, z1, z2, _⟩ := B1.three_
          generalize World.setCell (World.setCell (World.setCell w5 _ _) _ _) _ _ = wz at *
          rw [HR5.out]
          refine bodyPost_ret (v := Sp.v ⟨lo, max, x.p⟩) (by simp [results, Tryz.results256, go_sem, Sp.v, z0, z1, z2]) rfl ⟨_, rfl, rfl, P1.out, K1.out⟩
      · have hR5 := HR3.out
        rw [if_neg hq] at hR5
        have HR5 := Lib.hid hR5
        have HS5 := Lib.hid (HS4.out.next hp5 hk5)
        have HN := Lib.hid (number_any hp5 sg)
        obtain ⟨m0, m1, y0, y1⟩ := HS5.out.b1.two_
        clear HR3 HS4 hq hp5 hk5 HT hR5
        go_wp2_with fail
        refine HN.out.mono ?_
        intro e w6 hq
        clear HN m0 m1 y0 y1
        cases hr : numP sg l2.tail with
        | no q c =>
          rw [hr] at hq
          obtain ⟨rfl, hk⟩ := hq
          have HK6 := Lib.hid (HS5.out.kp.trans hk)
          have HR6 := Lib.hid (show R = .no q c by rw [HR5.out, hr])
          clear hk hr HR5
          unfold Stp stopV
          go_wp2_with fail
          rw [HR6.out]
          exact ⟨rfl, rfl, HK6.out⟩
        | ok hi l3 =>
          rw [hr] at hq
          obtain ⟨v, rfl, rfl, hp, hk, _, _⟩ := hq
          have hR6 := HR5.out
          rw [hr] at hR6
          simp only [Pz.and] at hR6
          have HS6 := Lib.hid (HS5.out.next hp hk)
          clear HR5 HS5 hr hp hk
          by_cases hlt : hi < lo
          · rw [if_pos hlt] at hR6
            have HR6 := Lib.hid hR6
            clear hR6
            go_wp2_with fail
            rw [HR6.out]
            exact ⟨rfl, rfl, HS6.out.kp⟩
          · rw [if_neg hlt] at hR6
            have HR6 := Lib.hid hR6
            clear hR6
            obtain ⟨m0, m1, m2, y0, y1, y2⟩ := HS6.out.b2.three_
            go_wp2_with fail
            obtain ⟨P1, K1, B1⟩ := HS6.out.put (.int .i64 lo) (.int .i64 hi) (.int .i64 x.p)
            have P1 := Lib.hid P1
            have K1 := Lib.hid K1
            obtain ⟨z0, z1, z2, _⟩ := B1.three_
            generalize World.setCell (World.setCell (World.setCell w6 _ _) _ _) _ _ = wz at *
            rw [HR6.out]
            refine bodyPost_ret (v := Sp.v ⟨lo, hi, x.p⟩) (by simp [results, Tryz.results256, go_sem, Sp.v, z0, z1, z2]) rfl ⟨_, rfl, rfl, P1.out, K1.out⟩
    · have hR3 := HR2.out
      rw [if_neg hq] at hR3
      have HR3 := Lib.hid hR3
      have HS3 := Lib.hid (HS2.out.next hp3 hk3)
      clear hR3 HR2 HS2 hq hp3 hk3 HT
      obtain ⟨m0, m1, m2, y0, y1, y2⟩ := HS3.out.b2.three_
      go_wp2_with fail
      obtain ⟨P1, K1, B1⟩ := HS3.out.put (.int .i64 lo) (.int .i64 lo) (.int .i64 x.p)
      have P1 := Lib.hid P1
      have K1 := Lib.hid K1
      obtain ⟨z0, z1, z2, _⟩ := B1.three_
      generalize World.setCell (World.setCell (World.setCell w3 _ _) _ _) _ _ = wz at *
      rw [HR3.out]
      refine bodyPost_ret (v := Sp.v ⟨lo, lo, x.p⟩) (by simp [results, Tryz.results256, go_sem, Sp.v, z0, z1, z2]) rfl ⟨_, rfl, rfl, P1.out, K1.out⟩
end
end
section
open Go.RowKit
set_option linter.unusedVariables false
set_option linter.unusedSimpArgs false

theorem Tryz.info126 : (Tryz.prog.info? 126).map (fun i => (i.zero, i.size, i.bytes)) = some (some (.agg #[.int .i64 0, .int .i64 0, .int .i64 0]), 3, 24) := by kernel_rfl
theorem Tryz.underlying47 : Tryz.prog.underlying 47 = some (.slice 126) := by kernel_rfl
theorem Sp.mem (w : World) (B : Nat) (x : Sp) : MemL w B x.dv #[.int .i64 x.lo, .int .i64 x.hi, .int .i64 x.at_].toList [] :=
  MemL.plain w B [.int .i64 x.lo, .int .i64 x.hi, .int .i64 x.at_] (by simp [Value.oneCell'])
section
variable {w : World} {b g : Nat} {cur : Array Value} {l : List Wd}
theorem numP_len {sg : Bool} {l l' : List Wd} {n : Int} (h : numP sg l = .ok n l') : l'.length ≤ l.length := by
  have key : ∀ m x m', ofP 2 m = .ok x m' → m'.length ≤ m.length := by
    intro m x m' h
    unfold ofP at h
    split at h
    · injection h with h1 h2; subst h2; simp
    · cases h
  unfold numP at h
  split at h
  · cases hr : ofP 2 l.tail with
    | no p e => rw [hr] at h; cases h
    | ok x m => rw [hr] at h; injection h with h1 h2; subst h2; have := key _ _ _ hr; simp at this; omega
  · cases hr : ofP 2 l with
    | no p e => rw [hr] at h; cases h
    | ok x m => rw [hr] at h; injection h with h1 h2; subst h2; exact key _ _ _ hr
theorem spanP_len {max : Int} {sg : Bool} {l l' : List Wd} {x : Sp} (h : spanP max sg l = .ok x l') : l'.length ≤ l.length := by
  unfold spanP at h
  cases hr : numP sg l with
  | no p e => rw [hr] at h; cases h
  | ok lo l2 =>
    rw [hr] at h
    have h1 := numP_len hr
    simp only [Pz.and] at h
    split at h
    · split at h
      · split at h
        · cases h
        · injection h with _ h2; subst h2; simp; omega
      · cases hr2 : numP sg l2.tail with
        | no p e => rw [hr2] at h; cases h
        | ok hi l3 =>
          rw [hr2] at h
          have h3 := numP_len hr2
          simp only [Pz.and] at h
          split at h
          · cases h
          · injection h with _ h2; subst h2; simp at h3; omega
    · injection h with _ h2; subst h2; exact h1
/-- A row of ranges. -/
abbrev rwSp (a : List Sp) (v : Value) : Rw := ⟨126, 3, a.length, a.flatMap Sp.dv, v⟩
theorem rwSp_snoc (a : List Sp) (x : Sp) (v v' : Value) : (⟨(rwSp a v).t, (rwSp a v).k, (rwSp a v).n + 1, (rwSp a v).cs ++ x.dv, v'⟩ : Rw) = rwSp (a ++ [x]) v' := by
  simp [rwSp]
/-- The loop of ranges. -/
structure RgR (w : World) (b g : Nat) (cur : Array Value) (B j : Nat) (rs : List Rw) (C : List Nat) (max : Int) (sg : Bool) (R : Pz (List Sp)) (v : Value) (a : List Sp) (l : List Wd) (wr : World) : Prop where
  ps : Ps wr b g cur l
  kp : Kc b B w wr
  rows : Rows_ wr B (rs.set j (rwSp a v)) C
  bb : Blk wr w.heap.size 262 #[.int .i64 max, .bool sg]
  nb : v.ownBlock ≠ some w.heap.size
  fin : ∃ n, l.length < n ∧ R = rngsF max sg n a l
set_option maxRecDepth 100000 in
set_option maxHeartbeats 1000000 in
theorem ranges_any (h : Ps w b g cur l) (max : Int) (sg : Bool) (B j : Nat) (rs : List Rw) (C : List Nat) (a0 : List Sp) (v0 : Value) (hr : Rows_ w B rs C) (hj : rs[j]? = some (rwSp a0 v0)) (hB : B ≤ w.heap.size) (hb : b < B) (hg : g < B) (n0 : Nat) (hn0 : l.length < n0) :
    Calls Tryz.prog 250 #[.pointer (some ⟨b, 0, none⟩), v0, .agg #[.int .i64 max, .bool sg]] w
    (PzQ (rngsF max sg n0 a0 l) (Kc b B w) fun a l' v w' => Rows_ w' B (rs.set j (rwSp a v)) C ∧ Ps w' b g cur l' ∧ Kc b B w w') := by
  obtain ⟨i0, hi0, hz0, hz1, hz2⟩ := info_parts Tryz.info126
  obtain ⟨R, hR⟩ : ∃ R, R = rngsF max sg n0 a0 l := ⟨_, rfl⟩
  rw [← hR]
  have HST := Lib.hid (show RgR w b g cur B j rs C max sg R v0 a0 l (w.alloc (.cells #[.int .i64 max, .bool sg] 262)) from
    ⟨h.alloc _, (Kp.refl _ w).alloc _, by rw [set_same hj]; exact hr.alloc _, Blk.new w 262 _, fun e => by have := (hr.own_mem hj e).2; omega, n0, hn0, hR⟩)
  have HJ := Lib.hid (fun (a : List Sp) (v : Value) => show (rs.set j (rwSp a v))[j]? = some (rwSp a v) from set_at hj _)
  obtain ⟨A0, c0, hv0, _⟩ := hr.val hj
  simp only at hv0
  subst hv0
  clear h hR hj hr
  go_enter Tryz.func250, Tryz.ntmps250
  go_wp2_with fail
  go_loopg [1] (l.length + 1) (fun gg v wr => ∃ (a : List Sp) (l' : List Wd), gg = l'.length + 1 ∧ RgR w b g cur B j rs C max sg R v a l' wr)
  case atStart => exact ⟨_, _, rfl, HST.out⟩
  case round =>
    clear HST
    obtain ⟨a, l', rfl, hrel⟩ := hrel
    have HREL := Lib.hid hrel
    obtain ⟨A1, c1, hv1, hc1, hc2⟩ := hrel.rows.val (HJ.out a _)
    simp only at hv1 hc1
    subst hv1
    obtain ⟨n, hn, hfin⟩ := hrel.fin
    obtain ⟨n, rfl⟩ : ∃ k, n = k + 1 := ⟨n - 1, by omega⟩
    rw [rngsF] at hfin
    unfold roomP at hfin
    have HFIN := Lib.hid hfin
    have HM := Lib.hid (room_any hrel.ps a.length 64)
    clear hfin hrel
    go_wp2_with fail
    refine HM.out.mono ?_
    rintro e w1 ⟨h1, hk1⟩
    have HKB := Lib.hid (HREL.out.kp.trans (Kp.mono hk1 (fun _ f _ => f.elim) : Kc b B wr w1))
    have HP1 := Lib.hid (HREL.out.ps.kn hk1)
    have HR1 := Lib.hid (HREL.out.rows.stays hk1.size fun q _ hq => hk1.block q hq (fun f => f))
    have hbb1 := HREL.out.bb.kp hk1 (fun f => f)
    have HNB := Lib.hid HREL.out.nb
    rcases h1 with ⟨hge, rfl⟩ | ⟨hlt, rfl⟩
    · have HR := Lib.hid (show R = .no (hdW l').p 5 by rw [HFIN.out, if_pos hge])
      clear hbb1 hk1 hge HFIN HREL HM
      unfold Stp stopV
      go_wp2_with fail
      rw [HR.out]
      exact ⟨rfl, rfl, HKB.out⟩
    · have hfin := HFIN.out
      rw [if_neg hlt] at hfin
      have HFI := Lib.hid hfin
      have HS := Lib.hid (span_any HP1.out max sg)
      obtain ⟨m0, m1, y0, y1⟩ := hbb1.two_
      have HBB := Lib.hid hbb1
      have hal : a.length ≤ 1000000 := by omega
      have hszB : B ≤ w1.heap.size ∧ w.heap.size ≤ w1.heap.size := ⟨by have := HKB.out.size; omega, HKB.out.size⟩
      have hbbl := hbb1.lt
      clear hfin HFIN HREL HM hk1 hlt hbb1
      go_wp2_with fail
      refine HS.out.mono ?_
      intro e w2 hq
      cases hr : spanP max sg l' with
      | no q c =>
        rw [hr] at hq
        obtain ⟨rfl, hk⟩ := hq
        have HK2 := Lib.hid (HKB.out.trans (hk.mono fun _ e _ => Or.inl e : Kc b B w1 w2))
        have HR := Lib.hid (show R = .no q c by rw [HFI.out, hr]; rfl)
        clear hk hr HFI HS m0 m1 y0 y1
        unfold Stp stopV
        go_wp2_with fail
        rw [HR.out]
        exact ⟨rfl, rfl, HK2.out⟩
      | ok x l2 =>
        rw [hr] at hq
        obtain ⟨v, rfl, rfl, hp, hk⟩ := hq
        have HR0 := Lib.hid hr
        have hR2 := HFI.out
        rw [hr] at hR2
        simp only [Pz.and] at hR2
        have HR2 := Lib.hid hR2
        have HP2 := Lib.hid hp
        have HK2 := Lib.hid (HKB.out.trans (hk.mono fun _ e _ => Or.inl e : Kc b B w1 w2))
        have HRW2 := Lib.hid ((HR1.out.kp hk (fun g e => by omega)).alloc (.cells #[.int .i64 x.lo, .int .i64 x.hi, .int .i64 x.at_] 126))
        have hbb2 := HBB.out.kp hk (by omega)
        have HBB2 := Lib.hid hbb2
        have hs2 := hk.size
        have hBz : B ≤ (w2.alloc (.cells #[.int .i64 x.lo, .int .i64 x.hi, .int .i64 x.at_] 126)).heap.size := by simp; omega
        clear hp hk hr HFI HS m0 m1 y0 y1 hR2 HKB HR1 HP1 HBB
        unfold Sp.v
        go_wp2_with (at_builtin; refine wpList_append_rows _ rfl _ _ 47 rfl HRW2.out j _ (HJ.out a _) i0 _ 24 Tryz.underlying47 hi0 hz0 hz1 hz2 rfl (Nat.succ_pos 2) rfl w2.heap.size rfl _ x.dv (Blk.new w2 126 _) rfl (Sp.mem _ B x) (by intro q hq; cases hq) hal (by decide) hBz ?_; intro v5 w5 ho5 hg5 hv5; have HO5 := Lib.hid ho5; have HG5 := Lib.hid hg5; have HV5 := Lib.hid hv5; clear ho5 hg5 hv5)
        have hown : ∀ q, (Value.slice A1 a.length c1).ownBlock = some q → B ≤ q := fun q hq => (HRW2.out.own_mem (HJ.out a _) hq).2.1
        have hrw5 := HO5.out
        rw [List.set_set, List.append_nil, rwSp_snoc a x (.slice none 0 0) v5] at hrw5
        have HP5 := Lib.hid ((HP2.out.alloc _).kp (Kp.of_grown HG5.out) (fun e => by have := hown b e.symm; omega) (fun e => by have := hown g e.symm; omega))
        have HK5 := Lib.hid ((HK2.out.alloc _).grown HG5.out fun q hq _ => Or.inr (hown q hq))
        have HB5 := Lib.hid ((HBB2.out.alloc _).kp (Kp.of_grown HG5.out) (fun e => HNB.out e.symm))
        have HN5 := Lib.hid (show v5.ownBlock ≠ some w.heap.size from fun e => by
          rcases HV5.out with h | h
          · exact HNB.out (h ▸ e)
          · rw [e] at h; injection h with h; simp at h; omega)
        have HRW5 := Lib.hid hrw5
        obtain ⟨A5, c5, hv5, hc5, hc5'⟩ := hrw5.val (HJ.out _ _)
        simp only [List.length_append, List.length_cons, List.length_nil, Nat.zero_add] at hv5 hc5
        have hln := HP2.out.gd.len
        have HT := Lib.hid (takes_any HP5.out kComma (by decide))
        have hnn : l2.length ≤ l'.length := spanP_len HR0.out
        clear hown hrw5 HO5 HG5 HV5 HRW2 HP2 HK2 HBB2 HNB
        subst hv5
        refine HT.out.mono ?_
        rintro e w6 ⟨h1, hk6⟩
        have HK6 := Lib.hid (HK5.out.trans (hk6.mono fun _ e _ => Or.inl e : Kc b B w5 w6))
        have HRW6 := Lib.hid (HRW5.out.kp hk6 (fun g e => by omega))
        rcases h1 with ⟨hq, rfl, hp6, hg6⟩ | ⟨hq, rfl, hp6⟩
        · have hR3 := HR2.out
          rw [if_pos hq] at hR3
          have HST := Lib.hid (RgR.mk (max := max) (sg := sg) hp6 HK6.out HRW6.out (HB5.out.kp hk6 (by omega)) HN5.out ⟨n, by have := HP5.out.gd.len; omega, hR3⟩)
          have hM : l2.tail.length + 1 < l'.length + 1 := by have := HP5.out.gd.len; omega
          clear hR3 hp6 hk6 hg6 HR2 HT hq HRW6 HK6 HB5 HN5 HRW5
          go_wp2_with fail
          go_roundg (l2.tail.length + 1)
          case measure => exact hM
          case rel => exact ⟨_, _, rfl, HST.out⟩
        · have hR3 := HR2.out
          rw [if_neg hq] at hR3
          have HR3 := Lib.hid hR3
          have HP6 := Lib.hid hp6
          clear hR3 hp6 hk6 HR2 HT hq HB5 HN5 HRW5
          go_wp2_with fail
          rw [HR3.out]
          exact bodyPost_ret (v := .slice A5 (a.length + 1) c5) (by simp [results, Tryz.results250, go_sem]) rfl ⟨_, rfl, HRW6.out, HP6.out, HK6.out⟩
end
end
end Go.Proofs.YthmdaejlopjjoaaGreatDoor
