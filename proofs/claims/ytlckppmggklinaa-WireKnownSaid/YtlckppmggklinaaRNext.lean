/-
  The document's answer: Next, where something is wrong, and of numbers in varints.
-/
import Derived.Test.YtlckppmggklinaaRNum
import Derived.Test.YtlckppmggklinaaNumbers
namespace Go.Proofs.Ytlckppmggklinaa
open Go.RowKit
set_option linter.unusedVariables false
attribute [local go_sem ↓] Go.wp_at_zero Go.wp_at_succ

def zeroObj : Obj := .cells #[.int .i64 0, .int .i64 0, .int .u64 0, .slice none 0 0, .slice none 0 0] 34

theorem rn_err {w W : World} {l : List UInt8} {e : Nat} (hnx : nxR l = (e, .zero, 0)) (hres : Blk W w.heap.size 34 #[.int .i64 0, .int .i64 0, .int .u64 0, .slice none 0 0, .slice none 0 0]) (hb : Below w.heap.size w W) :
    Blk (set5 W w.heap.size (.int .i64 0) (.int .i64 0) (.int .u64 0) (.slice none 0 0) (.slice none 0 0)) w.heap.size 34 #[.int .i64 0, .int .i64 0, .int .u64 0, .slice none 0 0, .slice none 0 0] ∧
    NextP w (nxR l) (.returned (.tuple #[.agg #[.int .i64 0, .int .i64 0, .int .u64 0, .slice none 0 0, .slice none 0 0], .int .i64 0, .int .i64 e])) (set5 W w.heap.size (.int .i64 0) (.int .i64 0) (.int .u64 0) (.slice none 0 0) (.slice none 0 0)) := by
  rw [hnx]
  refine ⟨hres.set5 _ _ _ _ _, _, rfl, ⟨_, _, rfl, Own.nil _ _, Own.nil _ _⟩, ?_⟩
  unfold set5
  exact ((((hb.setCell (by simp) _).setCell (by simp) _).setCell (by simp) _).setCell (by simp) _).setCell (by simp) _

/-- An error ahead of the record's own block: the answer's block was just laid. -/
theorem rn_err0 {w : World} {l : List UInt8} {e : Nat} (hnx : nxR l = (e, .zero, 0)) :
    NextP w (nxR l) (.returned (.tuple #[.agg #[.int .i64 0, .int .i64 0, .int .u64 0, .slice none 0 0, .slice none 0 0], .int .i64 0, .int .i64 e])) (w.alloc (.cells #[.int .i64 0, .int .i64 0, .int .u64 0, .slice none 0 0, .slice none 0 0] 34)) := by
  rw [hnx]
  exact ⟨_, rfl, ⟨_, _, rfl, Own.nil _ _, Own.nil _ _⟩, (Below.refl _ _).alloc (Nat.le_refl _) _⟩

theorem rn_err1 {w : World} {l : List UInt8} {e : Nat} {o : Obj} (hnx : nxR l = (e, .zero, 0)) :
    NextP w (nxR l) (.returned (.tuple #[.agg #[.int .i64 0, .int .i64 0, .int .u64 0, .slice none 0 0, .slice none 0 0], .int .i64 0, .int .i64 e])) ((w.alloc (.cells #[.int .i64 0, .int .i64 0, .int .u64 0, .slice none 0 0, .slice none 0 0] 34)).alloc o) := by
  rw [hnx]
  exact ⟨_, rfl, ⟨_, _, rfl, Own.nil _ _, Own.nil _ _⟩, ((Below.refl _ _).alloc (Nat.le_refl _) _).alloc (by simp) _⟩

theorem num_of {w : World} {lo hi n c p : Nat} {A : Option Addr} {l : List UInt8} (hB : Bs w lo hi A n c l) (hhi : hi ≤ w.heap.size) (hp : p ≤ n) (hn : n ≤ 2147483648) (e m k : Nat) (hr : rv (l.drop p) 0 0 = (e, m, k)) :
    Hid (∀ W : World, Below w.heap.size w W → Calls Try.prog 50 #[.slice A n c, .int .i64 p] W fun x w' => x = .returned (.tuple #[.int .u64 m, .int .i64 (endOf p (e, m, k) : Nat), .int .i64 e]) ∧ W = w') :=
  Lib.hid fun W h => by
    have := number_any (hB.below h hhi) hp hn
    rw [hr] at this
    exact this

set_option maxRecDepth 100000 in
set_option maxHeartbeats 2000000 in
theorem rnext_tag {w : World} {lo hi n c e : Nat} {A : Option Addr} {l : List UInt8} (hB : Bs w lo hi A n c l) (hhi : hi ≤ w.heap.size) (hn : n ≤ 2147483648) (hr : rv l 0 0 = (e, 0, 0)) (he : e ≠ 0) :
    Calls Try.prog 32 #[.slice A n c] w (NextP w (nxR l)) := by
  have hnx : nxR l = (e, .zero, 0) := by unfold nxR; rw [hr]; simp only; rw [if_pos he]
  have HN := num_of hB hhi (Nat.zero_le _) hn e 0 0 (by rw [List.drop_zero]; exact hr)
  rw [show endOf 0 (e, 0, 0) = 0 by simp [endOf]] at HN
  have hne : ((e : Int) != 0) = true := by simp; omega
  have HX := Lib.hid hnx
  clear hnx hr he hB
  go_enter Try.func32, Try.ntmps32
  go_wp2_with fail
  refine (HN.out _ ((Below.refl _ _).alloc (Nat.le_refl _) _)).mono ?_
  rintro x _ ⟨rfl, rfl⟩
  go_wp2
  exact bodyPost_ret (results_rec3 Try.results32 _ _ w.heap.size _ _ _ _ _ rfl (Blk.new _ _ _)) rfl (rn_err0 HX.out)

set_option maxRecDepth 100000 in
set_option maxHeartbeats 2000000 in
theorem rnext_num {w : World} {lo hi n c m k : Nat} {A : Option Addr} {l : List UInt8} (hB : Bs w lo hi A n c l) (hhi : hi ≤ w.heap.size) (hn : n ≤ 2147483648) (hr : rv l 0 0 = (0, m, k)) (h1 : m / 8 = 0 ∨ 536870911 < m / 8) :
    Calls Try.prog 32 #[.slice A n c] w (NextP w (nxR l)) := by
  have hnx : nxR l = (4, .zero, 0) := by unfold nxR; rw [hr]; simp only; rw [if_neg (by simp), if_pos h1]
  have HN := num_of hB hhi (Nat.zero_le _) hn 0 m k (by rw [List.drop_zero]; exact hr)
  have HX := Lib.hid hnx
  have hbd := (rv_bound l 0 0 (by omega) (by decide)).1
  rw [hr] at hbd
  simp only at hbd
  clear hnx hr hB
  generalize endOf 0 (0, m, k) = E at *
  rcases h1 with h1 | h1
  · have e2 : (m : Int) / 8 < 1 := by omega
    clear h1
    go_enter Try.func32, Try.ntmps32
    go_wp2_with fail
    refine (HN.out _ ((Below.refl _ _).alloc (Nat.le_refl _) _)).mono ?_
    rintro x _ ⟨rfl, rfl⟩
    go_wp2
    exact bodyPost_ret (results_rec3 Try.results32 _ _ w.heap.size _ _ _ _ _ rfl (Blk.new _ _ _)) rfl (rn_err0 (e := 4) HX.out)
  · have e2 : ¬ (m : Int) / 8 < 1 := by omega
    have e3 : (536870911 : Int) < (m : Int) / 8 := by omega
    clear h1
    go_enter Try.func32, Try.ntmps32
    go_wp2_with fail
    refine (HN.out _ ((Below.refl _ _).alloc (Nat.le_refl _) _)).mono ?_
    rintro x _ ⟨rfl, rfl⟩
    go_wp2
    exact bodyPost_ret (results_rec3 Try.results32 _ _ w.heap.size _ _ _ _ _ rfl (Blk.new _ _ _)) rfl (rn_err0 (e := 4) HX.out)

set_option maxRecDepth 100000 in
set_option maxHeartbeats 2000000 in
theorem rnext_wire {w : World} {lo hi n c m k : Nat} {A : Option Addr} {l : List UInt8} (hB : Bs w lo hi A n c l) (hhi : hi ≤ w.heap.size) (hn : n ≤ 2147483648) (hr : rv l 0 0 = (0, m, k)) (h1 : 1 ≤ m / 8) (h2 : m / 8 ≤ 536870911)
    (h3 : ¬ m % 8 = 0) (h4 : ¬ m % 8 = 1) (h5 : ¬ m % 8 = 2) (h6 : ¬ m % 8 = 5) :
    Calls Try.prog 32 #[.slice A n c] w (NextP w (nxR l)) := by
  have hbr : bdR (m % 8) (l.drop k) = (10, 0, [], 0) := by unfold bdR; rw [if_neg h3, if_neg h4, if_neg h5, if_neg h6]
  have hnx : nxR l = (10, .zero, 0) := by unfold nxR; rw [hr]; simp only; rw [if_neg (by simp), if_neg (by omega), hbr, if_pos (by simp)]
  have HN := num_of hB hhi (Nat.zero_le _) hn 0 m k (by rw [List.drop_zero]; exact hr)
  have HX := Lib.hid hnx
  have hbd := (rv_bound l 0 0 (by omega) (by decide)).1
  rw [hr] at hbd
  simp only at hbd
  have e2 : ¬ (m : Int) / 8 < 1 := by omega
  have e3 : ¬ (536870911 : Int) < (m : Int) / 8 := by omega
  have e4 : ((m : Int) % 8 == 0) = false := by simp; omega
  have e5 : ((m : Int) % 8 == 1) = false := by simp; omega
  have e6 : ((m : Int) % 8 == 2) = false := by simp; omega
  have e7 : ((m : Int) % 8 == 5) = false := by simp; omega
  clear hnx hr hB hbr h3 h4 h5 h6
  generalize endOf 0 (0, m, k) = E at *
  go_enter Try.func32, Try.ntmps32
  go_wp2_with fail
  refine (HN.out _ ((Below.refl _ _).alloc (Nat.le_refl _) _)).mono ?_
  rintro x _ ⟨rfl, rfl⟩
  go_wp2
  exact bodyPost_ret (results_rec3 Try.results32 _ _ w.heap.size _ _ _ _ _ rfl ((Blk.new _ _ _).alloc _)) rfl (rn_err1 (e := 10) HX.out)

theorem rn_fin {w W W2 : World} {q : Nat} {num wire : Int} {N : Nat} {vb v2 : Value} {bb raw : List UInt8}
    (res : Blk W w.heap.size 34 #[.int .i64 0, .int .i64 0, .int .u64 0, .slice none 0 0, .slice none 0 0]) (rec_ : Blk W q 34 #[.int .i64 num, .int .i64 wire, .int .u64 N, vb, .slice none 0 0]) (bel : Below w.heap.size w W) (lt : w.heap.size < q)
    (ob : Own W (w.heap.size + 1) vb bb) (nb : vb.ownBlock ≠ some q) (hb : Below W.heap.size W W2) (o2 : Own W2 W.heap.size v2 raw) : MkFin w (W2.setCell ⟨q, 4, none⟩ v2) q ⟨num, wire, N, bb, raw⟩ vb v2 := by
  have hq := rec_.lt
  have hn2 : v2.ownBlock ≠ some q := fun e => by have := (o2.lt e).1; omega
  refine ⟨?_, (res.below hb res.lt).far (by simp; omega) _, (ob.kept fun g hg => hb.block g (ob.lt hg).2).setCell (p := ⟨q, 4, none⟩) nb _, (o2.base_ res.lt).setCell (p := ⟨q, 4, none⟩) hn2 _,
    (bel.trans (hb.mono bel.size)).setCell (by simp; omega) _, lt⟩
  have := (rec_.below hb hq).set_ 4 v2
  exact this
theorem MkFin.next {w W : World} {q p : Nat} {r : Rc} {vb vr : Value} {l : List UInt8} (h : MkFin w W q r vb vr) (hnx : nxR l = (0, r, p)) :
    NextP w (nxR l) (.returned (.tuple #[.agg #[.int .i64 r.num, .int .i64 r.wire, .int .u64 r.n, vb, vr], .int .i64 p, .int .i64 0])) (set5 W w.heap.size (.int .i64 r.num) (.int .i64 r.wire) (.int .u64 r.n) vb vr) := by
  obtain ⟨v, e, ho, hb⟩ := h.end_.2
  rw [hnx]
  injection e with e
  injection e with e
  simp only [Array.mk.injEq, List.cons.injEq, and_true] at e
  rw [← e] at ho
  exact ⟨_, rfl, ho, hb⟩
end Go.Proofs.Ytlckppmggklinaa
