/-
  The reader: record.
-/
import Derived.Test.YtlckppmggklinaaRec
import Derived.Laws.EntriesVeiled
namespace Go.Proofs.Ytlckppmggklinaa
open Go.RowKit
set_option linter.unusedVariables false

/-- A record, as data. -/
structure Rc where
  num : Int
  wire : Int
  n : Nat
  b : List UInt8
  raw : List UInt8

def Rc.zero : Rc := ⟨0, 0, 0, [], []⟩

/-- What stands behind a record's number. -/
def bdR (wire : Nat) (l : List UInt8) : Nat × Nat × List UInt8 × Nat :=
  if wire = 0 then ((rv l 0 0).1, (rv l 0 0).2.1, [], (rv l 0 0).2.2) else if wire = 1 then fxR 8 l else if wire = 2 then ctR l else if wire = 5 then fxR 4 l else (10, 0, [], 0)

/-- The first record of bytes: (error, record, how many bytes). -/
def nxR (l : List UInt8) : Nat × Rc × Nat :=
  if (rv l 0 0).1 ≠ 0 then ((rv l 0 0).1, .zero, 0)
  else if (rv l 0 0).2.1 / 8 = 0 ∨ 536870911 < (rv l 0 0).2.1 / 8 then (4, .zero, 0)
  else if (bdR ((rv l 0 0).2.1 % 8) (l.drop (rv l 0 0).2.2)).1 ≠ 0 then ((bdR ((rv l 0 0).2.1 % 8) (l.drop (rv l 0 0).2.2)).1, .zero, 0)
  else (0, ⟨((rv l 0 0).2.1 / 8 : Nat), ((rv l 0 0).2.1 % 8 : Nat), (bdR ((rv l 0 0).2.1 % 8) (l.drop (rv l 0 0).2.2)).2.1, (bdR ((rv l 0 0).2.1 % 8) (l.drop (rv l 0 0).2.2)).2.2.1,
      l.take ((rv l 0 0).2.2 + (bdR ((rv l 0 0).2.1 % 8) (l.drop (rv l 0 0).2.2)).2.2.2)⟩, (rv l 0 0).2.2 + (bdR ((rv l 0 0).2.1 % 8) (l.drop (rv l 0 0).2.2)).2.2.2)

/-- A value is a record. -/
def IsRec (w : World) (lo hi : Nat) (v : Value) (r : Rc) : Prop :=
  ∃ A n c A' n' c', v = .agg #[.int .i64 r.num, .int .i64 r.wire, .int .u64 r.n, .slice A n c, .slice A' n' c'] ∧ Bs w lo hi A n c r.b ∧ Bs w lo hi A' n' c' r.raw

def bodiesV (g : Nat) : Value := .agg #[.func (.func 52) #[.pointer (some ⟨g, 0, none⟩)] #[], .func (.func 55) #[.pointer (some ⟨g, 0, none⟩)] #[], .func (.func 56) #[.pointer (some ⟨g, 0, none⟩)] #[], .nilFunc, .nilFunc, .func (.func 57) #[.pointer (some ⟨g, 0, none⟩)] #[], .nilFunc, .nilFunc]

set_option maxRecDepth 100000 in
set_option maxHeartbeats 400000 in
theorem bodies_any (g : Nat) (w : World) : Calls Try.prog 53 #[.pointer (some ⟨g, 0, none⟩)] w fun e w' => e = .returned (bodiesV g) ∧ ∃ o, w' = w.alloc o := by
  go_enter Try.func53, Try.ntmps53
  go_wp2
  exact bodyPost_ret (v := bodiesV g) (by simp [results, Try.results53, go_sem, bodiesV]) rfl ⟨rfl, _, rfl⟩

theorem varint_body {w : World} {g lo hi n c p : Nat} {A : Option Addr} {l : List UInt8} (hR : Rd w g A n c p) (hB : Bs w lo hi A n c l) (hg : hi ≤ g) (hp : p ≤ n) (hn : n ≤ 2147483648) :
    Calls Try.prog 52 #[.pointer (some ⟨g, 0, none⟩)] w (BodyP w g A n c p lo hi ((rv (l.drop p) 0 0).1, (rv (l.drop p) 0 0).2.1, [], (rv (l.drop p) 0 0).2.2)) := by
  refine (varint_any hR hB hg hp hn).mono ?_
  rintro e w' ⟨p', rfl, h1, h2, h3, h4⟩
  exact ⟨none, 0, p', rfl, h1, h2, Bs.none_ _ _ _ _ (by unfold maxLen; omega), h3, h4⟩

def RecP (w : World) (g : Nat) (A : Option Addr) (n c p lo hi : Nat) (R : Nat × Rc × Nat) (e : Ending) (w' : World) : Prop :=
  ∃ v p', e = .returned (.tuple #[v, .int .i64 R.1]) ∧ IsRec w' lo hi v R.2.1 ∧ Rd w' g A n c p' ∧ w.grownBy w' (some g) ∧ (R.1 = 0 → p' = p + R.2.2) ∧ p' ≤ n

theorem idx0 (g : Nat) : ∀ w, (Instr.index 78 (bodiesV g) (.int .i64 0)).run Try.prog w = .ok (.func (.func 52) #[.pointer (some ⟨g, 0, none⟩)] #[]) w := fun _ => by kernel_rfl

theorem func_nil (F : FuncId) (x : Array Value) : ∀ w, (binOp .eql 77 (.func (.func F) x #[]) .nilFunc).run Try.prog w = .ok (.bool false) w := fun _ => by kernel_rfl
theorem nil_nil : ∀ w, (binOp .eql 77 .nilFunc .nilFunc).run Try.prog w = .ok (.bool true) w := fun _ => by kernel_rfl


def zeroRec : Array Value := #[.int .i64 0, .int .i64 0, .int .u64 0, .slice none 0 0, .slice none 0 0]

/-- The five cells of a record's block, for a store. -/
theorem Blk.five {w : World} {g : Nat} {t : TypeId} {a b c d e : Value} (h : Blk w g t #[a, b, c, d, e]) :
    (w.cell? ⟨g, 0, none⟩ = some a ∧ w.cell? ⟨g, 1, none⟩ = some b ∧ w.cell? ⟨g, 2, none⟩ = some c ∧ w.cell? ⟨g, 3, none⟩ = some d ∧ w.cell? ⟨g, 4, none⟩ = some e) ∧
    (w.frozen? ⟨g, 0, none⟩ = false ∧ w.frozen? ⟨g, 1, none⟩ = false ∧ w.frozen? ⟨g, 2, none⟩ = false ∧ w.frozen? ⟨g, 3, none⟩ = false ∧ w.frozen? ⟨g, 4, none⟩ = false) :=
  ⟨⟨h.cell 0, h.cell 1, h.cell 2, h.cell 3, h.cell 4⟩, ⟨h.frozen 0, h.frozen 1, h.frozen 2, h.frozen 3, h.frozen 4⟩⟩

theorem Try.size34 : (Try.prog.info? 34).map (·.size) = some 5 := by kernel_rfl

theorem results_rec {fn : Func} {p u : Tmp} (h : fn.results = #[.cell p 34, .tmp u]) (tmps : Array Value) (w : World) (g : Nat) (a b c d e : Value)
    (hp : tmps.getD p undef = .pointer (some ⟨g, 0, none⟩)) (hg : Blk w g 34 #[a, b, c, d, e]) :
    (results fn tmps).run Try.prog w = .ok (.tuple #[.agg #[a, b, c, d, e], tmps.getD u undef]) w := by
  rw [results_cell_tmp h tmps Try.prog w, hp]
  simp [asAddr, run_loadVar_row (P := Try.prog) w g 34 34 #[a, b, c, d, e] (0, 0) _ hg Try.underlying34 rfl Try.size34]

def set5 (w : World) (g : Nat) (a b c d e : Value) : World := ((((w.setCell ⟨g, 0, none⟩ a).setCell ⟨g, 1, none⟩ b).setCell ⟨g, 2, none⟩ c).setCell ⟨g, 3, none⟩ d).setCell ⟨g, 4, none⟩ e
theorem Blk.set5 {w : World} {g : Nat} {t : TypeId} {a' b' c' d' e' : Value} (h : Blk w g t #[a', b', c', d', e']) (a b c d e : Value) : Blk (set5 w g a b c d e) g t #[a, b, c, d, e] := by
  have := ((((h.set_ 0 a).set_ 1 b).set_ 2 c).set_ 3 d).set_ 4 e
  exact this
theorem Kept.set5 {lo hi g : Nat} {w0 w : World} (h : Kept lo hi w0 w) (hg : g < lo ∨ hi ≤ g) (a b c d e : Value) : Kept lo hi w0 (set5 w g a b c d e) :=
  ((((h.setCell (p := ⟨g, 0, none⟩) hg a).setCell (p := ⟨g, 1, none⟩) hg b).setCell (p := ⟨g, 2, none⟩) hg c).setCell (p := ⟨g, 3, none⟩) hg d).setCell (p := ⟨g, 4, none⟩) hg e
theorem only_set5 {w0 w : World} {g r : Nat} (h : w0.grownBy w (some r)) (hg : g = r ∨ w0.heap.size ≤ g) (a b c d e : Value) : w0.grownBy (set5 w g a b c d e) (some r) :=
  only_setCell (only_setCell (only_setCell (only_setCell (only_setCell h (p := ⟨g, 0, none⟩) hg a) (p := ⟨g, 1, none⟩) hg b) (p := ⟨g, 2, none⟩) hg c) (p := ⟨g, 3, none⟩) hg d) (p := ⟨g, 4, none⟩) hg e
theorem only_alloc0 {a w : World} {row : Option Nat} (o : Obj) (h : (a.alloc o).grownBy w row) : a.grownBy w row :=
  ⟨h.os, h.tape, h.output, Nat.le_trans (by simp) h.size, fun i hi hne => (h.block i (by simp; omega) hne).trans (Below.heap_alloc a o i hi)⟩
theorem size_set5 (w : World) (g : Nat) (a b c d e : Value) : (set5 w g a b c d e).heap.size = w.heap.size := by simp [set5, World.setCell]

theorem rec_end {w w1 w3 : World} {g lo hi n c p m k x q n' : Nat} {A A' A4 : Option Addr} {l : List UInt8} {o : Obj} {Q : Nat × Nat × List UInt8 × Nat}
    (hgl : g < w.heap.size) (hg : hi ≤ g) (HRV : Hid (rv (l.drop p) 0 0 = (0, m, k))) (h1 : 1 ≤ m / 8) (h2 : m / 8 ≤ 536870911) (HM : Hid (m % 8 = x)) (HQ : Hid (Q = bdR x (l.drop (p + k)))) (HQ0 : Hid (Q.1 = 0))
    (hG1 : (w.alloc (.cells #[.int .i64 0, .int .i64 0, .int .u64 0, .slice none 0 0, .slice none 0 0] 34)).grownBy w1 (some g)) (hG3 : (w1.alloc o).grownBy w3 (some g))
    (HR3 : Hid (Rd w3 g A n c (p + k + Q.2.2.2))) (hB3 : Bs w3 lo hi A' n' n' Q.2.2.1) (hB4 : Bs w3 lo hi A4 (p + k + Q.2.2.2 - p) (p + k + Q.2.2.2 - p) ((l.drop p).take (p + k + Q.2.2.2 - p))) (hp3 : p + k + Q.2.2.2 ≤ n) :
    RecP w g A n c p lo hi (nxR (l.drop p)) (.returned (.tuple #[.agg #[.int .i64 ((m : Int) / 8), .int .i64 x, .int .u64 Q.2.1, .slice A' n' n', .slice A4 (p + k + Q.2.2.2 - p) (p + k + Q.2.2.2 - p)], .int .i64 0]))
      (set5 (w3.drewN q) w.heap.size (.int .i64 ((m : Int) / 8)) (.int .i64 x) (.int .u64 Q.2.1) (.slice A' n' n') (.slice A4 (p + k + Q.2.2.2 - p) (p + k + Q.2.2.2 - p))) := by
  have hx := HM.out
  have hq := HQ.out
  have e : nxR (l.drop p) = (0, ⟨((m / 8 : Nat) : Int), ((x : Nat) : Int), Q.2.1, Q.2.2.1, (l.drop p).take (k + Q.2.2.2)⟩, k + Q.2.2.2) := by
    unfold nxR
    rw [HRV.out]
    simp only [hx, List.drop_drop, ← hq]
    rw [if_neg (by simp), if_neg (by omega), if_neg (by simp [HQ0.out])]
  rw [e]
  rw [show p + k + Q.2.2.2 - p = k + Q.2.2.2 by omega] at *
  have hz1 : w.heap.size + 1 ≤ w1.heap.size := by have := hG1.size; simpa using this
  have hz3 : w1.heap.size + 1 ≤ w3.heap.size := by have := hG3.size; simpa using this
  have hK : Kept lo hi w3 (set5 (w3.drewN q) w.heap.size (.int .i64 ((m : Int) / 8)) (.int .i64 x) (.int .u64 Q.2.1) (.slice A' n' n') (.slice A4 (k + Q.2.2.2) (k + Q.2.2.2))) :=
    ((Kept.refl lo hi w3).drewN q).set5 (.inr (by omega)) _ _ _ _ _
  refine ⟨_, p + k + Q.2.2.2, rfl, ⟨_, _, _, _, _, _, rfl, hB3.kept hK, hB4.kept hK⟩, ?_, ?_, fun _ => by simp only; omega, hp3⟩
  · have h0 := HR3.out.drewN q
    exact ((((h0.far (p := ⟨w.heap.size, 0, none⟩) (by simp; omega) _).far (p := ⟨w.heap.size, 1, none⟩) (by simp; omega) _).far (p := ⟨w.heap.size, 2, none⟩) (by simp; omega) _).far (p := ⟨w.heap.size, 3, none⟩) (by simp; omega) _).far (p := ⟨w.heap.size, 4, none⟩) (by simp; omega) _
  · exact only_set5 (only_drewN (only_trans (only_alloc (only_alloc0 _ hG1) o) hG3) q) (.inr (Nat.le_refl _)) _ _ _ _ _

theorem rec_err {w W : World} {g lo hi n c p p3 e : Nat} {A : Option Addr} {l : List UInt8}
    (hgl : g < w.heap.size) (he : e ≠ 0) (hnx : nxR (l.drop p) = (e, .zero, 0)) (hR : Rd W g A n c p3) (hG : w.grownBy W (some g)) (hp3 : p3 ≤ n) :
    RecP w g A n c p lo hi (nxR (l.drop p)) (.returned (.tuple #[.agg #[.int .i64 0, .int .i64 0, .int .u64 0, .slice none 0 0, .slice none 0 0], .int .i64 e]))
      (set5 W w.heap.size (.int .i64 0) (.int .i64 0) (.int .u64 0) (.slice none 0 0) (.slice none 0 0)) := by
  rw [hnx]
  refine ⟨_, p3, rfl, ⟨_, _, _, _, _, _, rfl, Bs.none_ _ _ _ _ (by unfold maxLen; omega), Bs.none_ _ _ _ _ (by unfold maxLen; omega)⟩, ?_, ?_, fun h => absurd h he, hp3⟩
  · exact ((((hR.far (p := ⟨w.heap.size, 0, none⟩) (by simp; omega) _).far (p := ⟨w.heap.size, 1, none⟩) (by simp; omega) _).far (p := ⟨w.heap.size, 2, none⟩) (by simp; omega) _).far (p := ⟨w.heap.size, 3, none⟩) (by simp; omega) _).far (p := ⟨w.heap.size, 4, none⟩) (by simp; omega) _
  · exact only_set5 hG (.inr (Nat.le_refl _)) _ _ _ _ _

theorem nx_bad {l : List UInt8} {p m k x : Nat} {Q : Nat × Nat × List UInt8 × Nat} (HRV : Hid (rv (l.drop p) 0 0 = (0, m, k))) (h1 : 1 ≤ m / 8) (h2 : m / 8 ≤ 536870911) (HM : Hid (m % 8 = x)) (HQ : Hid (Q = bdR x (l.drop (p + k)))) (HQ0 : Hid (¬ Q.1 = 0)) :
    nxR (l.drop p) = (Q.1, .zero, 0) := by
  have hx := HM.out
  have hq := HQ.out
  unfold nxR
  rw [HRV.out]
  simp only [hx, List.drop_drop, ← hq]
  rw [if_neg (by simp), if_neg (by omega), if_pos (by simpa using HQ0.out)]

end Go.Proofs.Ytlckppmggklinaa
