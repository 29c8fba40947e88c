/-
  made: a record of a row.
-/
import Derived.Test.YtlckppmggklinaaMade
import Derived.Deep.DeepCutAuto
import Derived.Deep.RegionHeld3
namespace Go.Proofs.Ytlckppmggklinaa
open Go.RowKit
set_option linter.unusedVariables false
attribute [local go_sem ↓] Go.wp_at_zero Go.wp_at_succ

def MadeP (w : World) (r : Rc) (e : Ending) (w' : World) : Prop := ∃ v, e = .returned (.tuple #[v, .bool true]) ∧ OwnRec w' w.heap.size v r ∧ Below w.heap.size w w'

/-- What stands: the row, the answer's place. -/
structure MdW (w W : World) (a k n : Int) (B : Option Addr) (m d : Nat) (mo : Int) : Prop where
  row : Blk W w.heap.size 56 #[.int .i64 a, .int .i64 k, .int .u64 n, .slice B m d, .int .i64 mo]
  res : Blk W (w.heap.size + 1) 34 #[.int .i64 0, .int .i64 0, .int .u64 0, .slice none 0 0, .slice none 0 0]
  bel : Below w.heap.size w W
  sz : w.heap.size + 2 ≤ W.heap.size
theorem MdW.below {w W W' : World} {a k n mo : Int} {B : Option Addr} {m d : Nat} (h : MdW w W a k n B m d mo) (hb : Below W.heap.size W W') : MdW w W' a k n B m d mo :=
  have hs := h.sz
  have := hb.size
  ⟨h.row.below hb (by omega), h.res.below hb (by omega), h.bel.trans (hb.mono (by omega)), by omega⟩
theorem MdW.drew {w W : World} {a k n mo : Int} {B : Option Addr} {m d : Nat} (h : MdW w W a k n B m d mo) : MdW w W.drew a k n B m d mo := ⟨h.row.drew, h.res.drew, h.bel.drew, h.sz⟩
theorem MdW.alloc {w W : World} {a k n mo : Int} {B : Option Addr} {m d : Nat} (h : MdW w W a k n B m d mo) (o : Obj) : MdW w (W.alloc o) a k n B m d mo :=
  h.below ((Below.refl _ _).alloc (Nat.le_refl _) _)
theorem MdW.start (w : World) (a k n : Int) (B : Option Addr) (m d : Nat) (mo : Int) : MdW w ((w.alloc (.cells #[.int .i64 a, .int .i64 k, .int .u64 n, .slice B m d, .int .i64 mo] 56)).alloc (.cells #[.int .i64 0, .int .i64 0, .int .u64 0, .slice none 0 0, .slice none 0 0] 34)) a k n B m d mo :=
  ⟨(Blk.new w 56 _).alloc _, Blk.new2 w _ _ _, ((Below.refl _ _).alloc (Nat.le_refl _) _).alloc (by simp) _, by simp⟩

theorem cut30_bs {w : World} {lo hi m d : Nat} {B : Option Addr} {l : List UInt8} (h : Bs w lo hi B m d l) : ∃ k : Nat, min (m : Int) 30 = (k : Int) ∧ k ≤ d ∧ k ≤ 30 ∧ Bs w lo hi B k d (l.take 30) := by
  have hl := h.len
  have hle := h.le
  by_cases hm : m ≤ 30
  · refine ⟨m, by omega, hle, hm, ?_⟩
    rw [List.take_of_length_le (by omega)]; exact h
  · exact ⟨30, by omega, by omega, by omega, h.pre (by omega)⟩

/-- The record that Make makes of these. -/
def mkS (num K : Int) (N : Nat) (b : List UInt8) : Rc := ⟨num, K, if K = 2 then 0 else N, if K = 2 then b else [], mkRaw num K N b⟩
theorem mkR_ok {num K : Int} {N : Nat} {b : List UInt8} (h1 : 1 ≤ num) (h2 : num ≤ 536870911) (hk : K = 0 ∨ K = 1 ∨ K = 2 ∨ K = 5) (h5 : K = 5 → N < 4294967296) (hb : b.length ≤ 30) : mkR num K N b = (0, mkS num K N b) := by
  have hE : mayE num K N b.length = 0 := by
    rcases hk with rfl | rfl | rfl | rfl
    · simp [mayE]; omega
    · simp [mayE]; omega
    · simp [mayE]; omega
    · have := h5 rfl; simp [mayE]; omega
  unfold mkR; rw [hE]; simp [mkS]

/-- All that is left of the row, once its kind is known. -/
structure MdC (w : World) (num T : Int) (K : Int) (N NN MO ts k30 d : Nat) (B : Option Addr) (b bb bd : List UInt8) (R : Rc) : Prop where
  make : ∀ W, Below w.heap.size w W → Calls Try.prog 24 #[.int .i64 num, .int .i64 K, .int .u64 N, .slice B k30 d] W fun e W' => ∃ vb vr, e = .returned (.tuple #[.agg #[.int .i64 num, .int .i64 K, .int .u64 NN, vb, vr], .int .i64 0]) ∧ Own W' W.heap.size vb bb ∧ Own W' W.heap.size vr (Lib.uvarint T.toNat ++ bd) ∧ Below W.heap.size W W'
  size : ∀ W, Calls Try.prog 16 #[.int .u64 T] W fun e w' => e = .returned (.int .i64 (ts : Int)) ∧ W = w'
  long : ∀ W, Calls Try.prog 51 #[.int .u64 T, .int .i64 MO] W (Fresh W (lng MO (Lib.uvarint T.toNat)))
  longN : ∀ W, Calls Try.prog 51 #[.int .u64 N, .int .i64 MO] W (Fresh W (lng MO (Lib.uvarint N)))
  good : Good R
  tsz : ts = (Lib.uvarint T.toNat).length
  nn : NN = if K = 2 then 0 else N
  bbq : bb = if K = 2 then b else []
  bdq : bd = bodyB 0 K N b
  out : R = ⟨num, K, NN, bb, lng MO (Lib.uvarint T.toNat) ++ bodyB MO K N b⟩
  bd2 : K ≠ 0 → bodyB MO K N b = bd
  bd0 : K = 0 → bodyB MO K N b = lng MO (Lib.uvarint N)
  nb : bb.length ≤ 30
  nd : bd.length ≤ 40
  t10 : ts ≤ 10
  lg : (lng MO (Lib.uvarint T.toNat)).length ≤ 10
  lgN : (lng MO (Lib.uvarint N)).length ≤ 10
theorem mdC {w : World} {lo hi N MO k30 d : Nat} {num T K : Int} {B : Option Addr} {b : List UInt8} (hB : Bs w lo hi B k30 d b) (hhi : hi ≤ w.heap.size) (h1 : 1 ≤ num) (h2 : num ≤ 536870911) (hk : K = 0 ∨ K = 1 ∨ K = 2 ∨ K = 5) (hT : T = 8 * num + K) (hN : (N : Int) ≤ 18446744073709551615) (h5 : K = 5 → N < 4294967296) (hb : k30 ≤ 30) (hm : MO ≤ 4) :
    ∃ ts bb bd, MdC w num T K N (if K = 2 then 0 else N) MO ts k30 d B b bb bd (mdR num K N b MO) := by
  have hl := hB.len
  subst hT
  refine ⟨_, if K = 2 then b else [], bodyB 0 K N b, fun W h => ?_, fun W => size_any _ W (by omega) (by omega), fun W => ?_, fun W => longer_any N MO W hN (by omega), mdR_good h1 h2 hk (by omega) h5 (by omega), rfl, rfl, rfl, rfl, rfl, ?_, ?_, ?_, ?_, Lib.uvarint_length64 (by omega), (lng_uv _ _ (by omega)).2.2, (lng_uv _ _ (by omega)).2.2⟩
  · have := make_any (num := num) (wire := K) (n := N) (hB.below h hhi) (Nat.le_trans hhi h.size) hN
    rw [mkR_ok h1 h2 hk h5 (by omega)] at this
    refine this.mono fun e W' hp => ?_
    obtain ⟨v, rfl, ⟨vb, vr, rfl, o1, o2⟩, hb⟩ := hp
    refine ⟨vb, vr, rfl, o1, ?_, hb⟩
    have e : (mkS num K N b).raw = Lib.uvarint (8 * num + K).toNat ++ bodyB 0 K N b := by
      unfold mkS mkRaw bodyB
      rfl
    rw [← e]; exact o2
  · have := longer_any (8 * num + K).toNat MO W (by omega) (by omega)
    rwa [show (((8 * num + K).toNat : Nat) : Int) = 8 * num + K by omega] at this
  · intro h0; unfold bodyB; rw [if_neg h0, if_neg h0]
  · intro h0; unfold bodyB; rw [if_pos h0]
  · split
    · omega
    · simp
  · have hv := Lib.uvarint_length64 (x := N) (by omega)
    have hv2 := Lib.uvarint_length64 (x := b.length) (by omega)
    unfold bodyB
    split
    · show (Lib.uvarint N).length ≤ 40
      omega
    split
    · rw [fixB_length]; omega
    split
    · rw [fixB_length]; omega
    · rw [List.length_append]; omega

structure MdF (w W5 : World) (q : Nat) (num K : Int) (NN : Nat) (vX vV : Value) (R : Rc) : Prop where
  chk : ∀ W, Below W5.heap.size W5 W → Calls Try.prog 29 #[.agg #[.int .i64 num, .int .i64 K, .int .u64 NN, vX, vV]] W fun e w' => e = .returned (.int .i64 0) ∧ Below W.heap.size W w'
  cells : ∀ W, Below W5.heap.size W5 W → Blk W (w.heap.size + 1) 34 #[.int .i64 0, .int .i64 0, .int .u64 0, .slice none 0 0, .slice none 0 0] ∧ Blk W q 34 #[.int .i64 num, .int .i64 K, .int .u64 NN, vX, vV]
  end_ : ∀ W, Below W5.heap.size W5 W → Blk (set5 W (w.heap.size + 1) (.int .i64 num) (.int .i64 K) (.int .u64 NN) vX vV) (w.heap.size + 1) 34 #[.int .i64 num, .int .i64 K, .int .u64 NN, vX, vV] ∧
    MadeP w R (.returned (.tuple #[.agg #[.int .i64 num, .int .i64 K, .int .u64 NN, vX, vV], .bool true])) (set5 W (w.heap.size + 1) (.int .i64 num) (.int .i64 K) (.int .u64 NN) vX vV)
theorem md_fin {w W5 : World} {a k n mo num K : Int} {B X V : Option Addr} {m d q NN kx cx kv cv : Nat} {bb L : List UInt8} (hS : MdW w W5 a k n B m d mo) (hq : Blk W5 q 34 #[.int .i64 num, .int .i64 K, .int .u64 NN, .slice X kx cx, .slice V kv cv])
    (oX : Own W5 (w.heap.size + 2) (.slice X kx cx) bb) (oV : Own W5 (w.heap.size + 2) (.slice V kv cv) L) (hx : kx ≤ 100) (hv : kv ≤ 100) (hg : Good ⟨num, K, NN, bb, L⟩) : MdF w W5 q num K NN (.slice X kx cx) (.slice V kv cv) ⟨num, K, NN, bb, L⟩ := by
  have hs := hS.sz
  refine ⟨fun W h => ?_, fun W h => ⟨hS.res.below h (by omega), hq.below h hq.lt⟩, fun W h => ?_⟩
  · have := check_any (r := ⟨num, K, NN, bb, L⟩) (oX.toBs.below h (Nat.le_refl _)) (oV.toBs.below h (Nat.le_refl _)) h.size (by omega)
    rw [hg.chk] at this
    exact this
  · have := rcopy_end (w := w) (r := ⟨num, K, NN, bb, L⟩) (oX.kept fun g e => h.block g (oX.lt e).2) (oV.kept fun g e => h.block g (oV.lt e).2) (hS.res.below h (by omega)) (hS.bel.trans (h.mono (by omega)))
    refine ⟨this.1, ?_⟩
    obtain ⟨v, e, h1, h2⟩ := this.2
    injection e with e
    subst e
    exact ⟨_, rfl, h1, h2⟩

theorem md_app {w W2 w3 w4 : World} {a k n mo : Int} {B : Option Addr} {m d q : Nat} {cs : Array Value} {vX v3 v4 : Value} {bb L3 : List UInt8} (hS : MdW w W2 a k n B m d mo) (hq : Blk W2 q 34 cs) (oX : Own W2 (w.heap.size + 2) vX bb)
    (hb3 : Below W2.heap.size W2 w3) (o3 : Own w3 W2.heap.size v3 L3) (hg : Grew w3 w4 v3 v4) : MdW w w4 a k n B m d mo ∧ Blk w4 q 34 cs ∧ Own w4 (w.heap.size + 2) vX bb ∧ Below W2.heap.size W2 w4 := by
  have hb4 : Below W2.heap.size W2 w4 := hb3.trans (hg.below hb3.size (fun g h => (o3.lt h).1))
  exact ⟨hS.below hb4, hq.below hb4 hq.lt, oX.kept fun g h => hb4.block g (oX.lt h).2, hb4⟩

theorem md_store {w W2 w4 : World} {a k n mo : Int} {B : Option Addr} {m d q : Nat} {c0 c1 c2 c3 c4 vX v4 : Value} {bb L4 : List UInt8} (hS : MdW w w4 a k n B m d mo) (hq : Blk w4 q 34 #[c0, c1, c2, c3, c4]) (oX : Own w4 (w.heap.size + 2) vX bb) (o4 : Own w4 W2.heap.size v4 L4)
    (hq2 : w.heap.size + 2 ≤ q) (hlt : q < W2.heap.size) :
    MdW w (w4.setCell ⟨q, 4, none⟩ v4) a k n B m d mo ∧ Blk (w4.setCell ⟨q, 4, none⟩ v4) q 34 #[c0, c1, c2, c3, v4] ∧ Own (w4.setCell ⟨q, 4, none⟩ v4) (w.heap.size + 2) vX bb ∧ Own (w4.setCell ⟨q, 4, none⟩ v4) (w.heap.size + 2) v4 L4 := by
  have hs := hS.sz
  refine ⟨⟨hS.row.far (by simp; omega) _, hS.res.far (by simp; omega) _, hS.bel.setCell (by simp; omega) _, by simpa using hS.sz⟩, hq.set_ 4 v4, oX.setCell ?_ _, (o4.setCell ?_ _).base_ (by omega)⟩
  · intro e
    rcases oX.2 with ⟨rfl, _⟩ | ⟨g, cap, cur, rfl, _, hh, _⟩
    · cases e
    · have : g = q := by simpa [Value.ownBlock] using e
      subst this
      have := hq
      unfold Blk at this
      rw [hh] at this
      injection this with this
      injection this with _ ht
      exact absurd ht (by decide)
  · intro e
    have := (o4.lt e).1
    simp at this
    omega

set_option maxRecDepth 100000 in
set_option maxHeartbeats 4000000 in
theorem made_core {w : World} {lo hi m d n : Nat} {a k mo : Int} {B : Option Addr} {b : List UInt8} (hB : Bs w lo hi B m d b) (hhi : hi ≤ w.heap.size) (hn : (n : Int) ≤ 18446744073709551615) :
    Calls Try.prog 39 #[.agg #[.int .i64 a, .int .i64 k, .int .u64 n, .slice B m d, .int .i64 mo]] w (MadeP w (mdR (1 + (brg a 536870911 : Nat)) (kindN (brg k 4 : Nat)) (if kindN (brg k 4 : Nat) = 5 then n % 4294967296 else n) (b.take 30) (brg mo 4))) := by
  have hst := MdW.start w a k n B m d mo
  have h1 : ∀ W : World, Calls Try.prog 40 #[.int .i64 a, .int .i64 536870911] W fun e w' => e = .returned (.int .i64 (brg a 536870911 : Nat)) ∧ W = w' := fun W => bring_any a 536870911 W (by omega) (by omega)
  have h2 : ∀ W : World, Calls Try.prog 40 #[.int .i64 k, .int .i64 4] W fun e w' => e = .returned (.int .i64 (brg k 4 : Nat)) ∧ W = w' := fun W => bring_any k 4 W (by omega) (by omega)
  have h3 : ∀ W : World, Calls Try.prog 40 #[.int .i64 mo, .int .i64 4] W fun e w' => e = .returned (.int .i64 (brg mo 4 : Nat)) ∧ W = w' := fun W => bring_any mo 4 W (by omega) (by omega)
  have l1 := brg_lt a 536870911 (by omega)
  have l2 := brg_lt k 4 (by omega)
  have l3 := brg_lt mo 4 (by omega)
  generalize brg a 536870911 = NM at *
  obtain ⟨KK, hKK⟩ : ∃ KK : Int, ((brg k 4 : Nat) : Int) = KK := ⟨_, rfl⟩
  simp only [hKK] at h2 ⊢
  have l2' : KK = 0 ∨ KK = 1 ∨ KK = 2 ∨ KK = 3 := by omega
  clear l2 hKK
  generalize brg mo 4 = MO at *
  have H1 := Lib.hid h1
  have H2 := Lib.hid h2
  have H3 := Lib.hid h3
  clear h1 h2 h3
  obtain ⟨R, hR⟩ : ∃ R, R = mdR (1 + (NM : Int)) (kindN KK) (if kindN KK = 5 then n % 4294967296 else n) (b.take 30) MO := ⟨_, rfl⟩
  rw [← hR]
  have HR := Lib.hid hR
  clear hR
  obtain ⟨⟨r0, r1, r2, r3, r4⟩, _⟩ := hst.row.five
  go_enter Try.func39, Try.ntmps39
  go_upto_region 1 with fail
  generalize ((w.alloc (.cells #[.int .i64 a, .int .i64 k, .int .u64 n, .slice B m d, .int .i64 mo] 56)).alloc (.cells #[.int .i64 0, .int .i64 0, .int .u64 0, .slice none 0 0, .slice none 0 0] 34)) = W0 at *
  go_cut [4, 5] (fun s4 s5 wx => s4 = .int .i64 (1 + (NM : Int)) ∧ s5 = .int .i64 (kindN KK) ∧ MdW w wx a k n B m d mo)
  case first =>
    have HS := Lib.hid hst
    have hsz := hst.sz
    have hsz1 : w.heap.size < W0.heap.size := by omega
    clear hst
    rcases l2' with rfl | rfl | rfl | rfl
    all_goals
      go_region_with (first | (go_at_call_of 40 (Value.int .i64 a); refine (H1.out _).mono ?_; rintro e w' ⟨rfl, rfl⟩) | (go_at_call_of 40 (Value.int .i64 k); refine (H2.out _).mono ?_; rintro e w' ⟨rfl, rfl⟩))
      all_goals (go_wp2_with fail; go_meet; exact ⟨by rw [IntWalk.i64_in _ (by omega)], rfl, (HS.out.alloc _).drew⟩)
  case rest =>
    obtain ⟨rfl, rfl, hS⟩ := hcut
    obtain ⟨k30, hmin, hkd, hk30, hB30⟩ := cut30_bs hB
    clear hB hst H1 H2 r0 r1 r2 r3 r4
    obtain ⟨⟨r0, r1, r2, r3, r4⟩, _⟩ := hS.row.five
    have hR := HR.out
    obtain ⟨num, hnum⟩ : ∃ num : Int, 1 + (NM : Int) = num := ⟨_, rfl⟩
    have hn1 : 1 ≤ num := by omega
    have hn2 : num ≤ 536870911 := by omega
    simp only [hnum]
    rw [hnum] at hR
    have hkind : kindN KK = 0 ∨ kindN KK = 1 ∨ kindN KK = 2 ∨ kindN KK = 5 := by
      rcases l2' with rfl | rfl | rfl | rfl <;> simp [kindN]
    generalize kindN KK = K at *
    clear l2' hnum l1 HR
    generalize b.take 30 = b0 at *
    have HS := Lib.hid hS
    have hsz := hS.sz
    clear hS
    obtain ⟨N, hN, hN5, hNb⟩ : ∃ N : Nat, (if K = 5 then n % 4294967296 else n) = N ∧ (K = 5 → (n : Int) % 4294967296 = (N : Int)) ∧ (K ≠ 5 → n = N) := by
      by_cases q : K = 5
      · exact ⟨n % 4294967296, by rw [if_pos q], fun _ => by omega, fun h => absurd q h⟩
      · exact ⟨n, by rw [if_neg q], fun h => absurd h q, fun _ => rfl⟩
    rw [hN] at hR
    have hN2 : (N : Int) ≤ 18446744073709551615 := by
      by_cases q : K = 5
      · have := hN5 q; omega
      · have := hNb q; omega
    obtain ⟨i0, hi0, hz0, hz1, hz2⟩ := info_parts Try.info5
    have hC := fun (T : Int) (hT : T = 8 * num + K) => mdC (T := T) hB30 hhi hn1 hn2 hkind hT hN2 (fun q => by have := hN5 q; omega) hk30 (show MO ≤ 4 by omega)
    rw [← hR] at hC
    clear hR hN hB30
    rcases hkind with rfl | rfl | rfl | rfl
    · obtain rfl : n = N := hNb (by decide)
      clear hNb hN5
      obtain ⟨ts, bb, bd, hC0⟩ := hC (8 * num) (by omega)
      clear hC
      have h10 := hC0.t10
      have hlg := hC0.lg
      have hnd := hC0.nd
      obtain ⟨NN, hNN⟩ : ∃ NN : Nat, (if (0 : Int) = 2 then 0 else n) = NN := ⟨_, rfl⟩
      rw [hNN] at hC0
      clear hNN
      have HC := Lib.hid hC0
      clear hC0
      go_wp2_with fail
      go_region
      go_wp2_with fail
      refine (HC.out.make _ (HS.out.bel.drew)).mono ?_
      rintro e w2 ⟨vb, vr, rfl, ob, orr, hb2⟩
      obtain ⟨X, kx, cx, rfl⟩ := ob.val
      obtain ⟨Y, ky, cy, rfl⟩ := orr.val
      have hs2 : wc.heap.size ≤ w2.heap.size := hb2.size
      have hsz0 : w.heap.size + 2 ≤ wc.drew.heap.size := hsz
      have hS2 := (HS.out.drew.below hb2).alloc (.cells #[.int .i64 num, .int .i64 0, .int .u64 NN, .slice X kx cx, .slice Y ky cy] 34)
      have hq := Blk.new w2 34 #[.int .i64 num, .int .i64 0, .int .u64 NN, .slice X kx cx, .slice Y ky cy]
      have oX := (ob.alloc (.cells #[.int .i64 num, .int .i64 0, .int .u64 NN, .slice X kx cx, .slice Y ky cy] 34)).base_ hsz0
      have oY := (orr.alloc (.cells #[.int .i64 num, .int .i64 0, .int .u64 NN, .slice X kx cx, .slice Y ky cy] 34)).base_ hsz0
      have hzW : (w2.alloc (.cells #[.int .i64 num, .int .i64 0, .int .u64 NN, .slice X kx cx, .slice Y ky cy] 34)).heap.size = w2.heap.size + 1 := by simp
      have hW2 : ∃ W2, w2.alloc (.cells #[.int .i64 num, .int .i64 0, .int .u64 NN, .slice X kx cx, .slice Y ky cy] 34) = W2 := ⟨_, rfl⟩
      obtain ⟨W2, hW2⟩ := hW2
      rw [hW2] at hS2 hq oX oY hzW
      clear ob orr hb2 r0 r1 r2 r3 r4
      have hcells := hS2.row.five
      have hqf := hq.five
      have hYB := oY.toBs
      have hky : ky = ts + bd.length := by have := hYB.len; rw [List.length_append] at this; have := HC.out.tsz; omega
      have hle := hYB.le
      have hup := Lib.uvarint_pos (8 * num).toNat
      have htp : 1 ≤ ts := by have := HC.out.tsz; omega
      obtain ⟨gy, oy, rfl, _, _, _⟩ := hYB.at_ (by omega)
      have hrest := fun (A : Option Addr) (hA : A = if cy - ts = 0 then some ⟨gy, oy, none⟩ else some ⟨gy, oy + ts, none⟩) => hYB.from_ (K := ts) (by omega) hA
      have hdrop : (Lib.uvarint (8 * num).toNat ++ bd).drop ts = bd := by rw [HC.out.tsz]; simp
      have hkt : ky - ts = bd.length := by omega
      rw [hdrop] at hrest
      have HRE := Lib.hid hrest
      have HKY := Lib.hid hky
      have HKT := Lib.hid hkt
      have i1 : (ts : Int) ≤ (ky : Int) := by omega
      have i2 : (ky : Int) ≤ (cy : Int) := by omega
      have i1n : ts ≤ ky := by omega
      have i2n : ky ≤ cy := by omega
      have hkyb : ky ≤ 50 := by omega
      have HS2 := Lib.hid hS2
      have HQ := Lib.hid hq
      have HX := Lib.hid oX
      obtain ⟨⟨r0, r1, r2, r3, r4⟩, _⟩ := hcells
      obtain ⟨⟨q0, q1, q2, q3, q4⟩, _⟩ := hqf
      clear hrest hky hkt hdrop hYB oY oX hS2 hq HS
      go_wp2_with fail
      refine (H3.out _).mono ?_
      rintro e _ ⟨rfl, rfl⟩
      clear hW2
      go_wp2_with fail
      refine (HC.out.size _).mono ?_
      rintro e _ ⟨rfl, rfl⟩
      by_cases hcK : cy - ts = 0
      all_goals
        go_wp2_with fail
        refine (HC.out.longN _).mono ?_
        rintro e wl ⟨vl, rfl, ol, hbl⟩
        obtain ⟨Zl, kl, cl, rfl⟩ := ol.val
        have hsl := hbl.size
        have hkl : kl ≤ 10 := by have := ol.toBs.len; have := HC.out.lgN; omega
        have HSl := Lib.hid (HS2.out.below hbl)
        have HQl := Lib.hid (HQ.out.below hbl HQ.out.lt)
        have HXl := Lib.hid (HX.out.kept fun g h => hbl.block g (HX.out.lt h).2)
        have HOl := Lib.hid ol.toBs
        clear ol q0 q1 q2 q3 q4 r0 r1 r2 r3 r4
        go_wp2_with fail
        refine (HC.out.long _).mono ?_
        rintro e w3 ⟨v3, rfl, o3, hb3⟩
        have o3' := o3
        obtain ⟨Z, kz, cz, rfl⟩ := o3.val
        have hs3 := hb3.size
        have hre := HOl.out.below hb3 (Nat.le_refl _)
        have hlen : (lng MO (Lib.uvarint (8 * num).toNat)).length + kl ≤ 140737488355328 := by omega
        go_wp2_with (at_builtin; refine wpList_append_bs _ rfl _ _ 22 rfl i0 Try.underlying22 hi0 hz0 hz1 hz2 wl.heap.size _ _ rfl o3' _ _ _ _ _ _ rfl hre hlen hs3 ?_; intro v4 w4 o4 hg4; obtain ⟨hS4, hq4, oX4, hb4⟩ := md_app HSl.out HQl.out HXl.out hb3 o3' hg4; obtain ⟨V, kv, cv, rfl⟩ := o4.val; have hst := Lib.hid (md_store (W2 := wl) hS4 hq4 oX4 o4 (by omega) (by omega)); obtain ⟨⟨p0, p1, p2, p3, p4⟩, ⟨f0, f1, f2, f3, f4⟩⟩ := hq4.five; clear hS4 hq4 oX4 o4 hg4)
        clear p0 p1 p2 p3 p4 f0 f1 f2 f3 f4 hre hlen
        obtain ⟨hS5, hq5, oX5, oV5⟩ := hst.out
        clear hst
        have hF := md_fin hS5 hq5 oX5 oV5 (by have := oX5.toBs.len; have := HC.out.nb; omega) (by have := oV5.toBs.len; rw [List.length_append] at this; have := HC.out.lgN; omega) (by have h := HC.out.good; rw [HC.out.out, HC.out.bd0 rfl] at h; exact h)
        have hsz5 := hS5.sz
        generalize w4.setCell ⟨w2.heap.size, 4, none⟩ (.slice V kv cv) = W5 at *
        have HF := Lib.hid hF
        obtain ⟨⟨p0, p1, p2, p3, p4⟩, _⟩ := hq5.five
        clear hF hS5 hq5 oX5 oV5
        go_region_with (go_at_call 29; refine (HF.out.chk _ ?_).mono ?_; exact (Below.refl _ _).drew; rintro e w6 ⟨rfl, hb6⟩; have hE := HF.out.end_ _ ((Below.refl _ _).drew.trans hb6); have hQ6 := HF.out.cells _ ((Below.refl _ _).drew.trans hb6); obtain ⟨⟨s0, s1, s2, s3, s4⟩, ⟨t0, t1, t2, t3, t4⟩⟩ := hQ6.1.five; obtain ⟨⟨x0, x1, x2, x3, x4⟩, _⟩ := hQ6.2.five; have HE := Lib.hid hE; clear hE hQ6)
        all_goals
          go_wp2
          exact bodyPost_ret (results_rec Try.results39 _ _ (w.heap.size + 1) _ _ _ _ _ rfl HE.out.1) rfl (by rw [HC.out.out, HC.out.bd0 rfl]; exact HE.out.2)
    · obtain rfl : n = N := hNb (by decide)
      clear hNb hN5
      obtain ⟨ts, bb, bd, hC0⟩ := hC (8 * num + 1) (by omega)
      clear hC
      have h10 := hC0.t10
      have hlg := hC0.lg
      have hnd := hC0.nd
      obtain ⟨NN, hNN⟩ : ∃ NN : Nat, (if (1 : Int) = 2 then 0 else n) = NN := ⟨_, rfl⟩
      rw [hNN] at hC0
      clear hNN
      have HC := Lib.hid hC0
      clear hC0
      go_wp2_with fail
      go_region
      go_wp2_with fail
      refine (HC.out.make _ (HS.out.bel.drew)).mono ?_
      rintro e w2 ⟨vb, vr, rfl, ob, orr, hb2⟩
      obtain ⟨X, kx, cx, rfl⟩ := ob.val
      obtain ⟨Y, ky, cy, rfl⟩ := orr.val
      have hs2 : wc.heap.size ≤ w2.heap.size := hb2.size
      have hsz0 : w.heap.size + 2 ≤ wc.drew.heap.size := hsz
      have hS2 := (HS.out.drew.below hb2).alloc (.cells #[.int .i64 num, .int .i64 1, .int .u64 NN, .slice X kx cx, .slice Y ky cy] 34)
      have hq := Blk.new w2 34 #[.int .i64 num, .int .i64 1, .int .u64 NN, .slice X kx cx, .slice Y ky cy]
      have oX := (ob.alloc (.cells #[.int .i64 num, .int .i64 1, .int .u64 NN, .slice X kx cx, .slice Y ky cy] 34)).base_ hsz0
      have oY := (orr.alloc (.cells #[.int .i64 num, .int .i64 1, .int .u64 NN, .slice X kx cx, .slice Y ky cy] 34)).base_ hsz0
      have hzW : (w2.alloc (.cells #[.int .i64 num, .int .i64 1, .int .u64 NN, .slice X kx cx, .slice Y ky cy] 34)).heap.size = w2.heap.size + 1 := by simp
      have hW2 : ∃ W2, w2.alloc (.cells #[.int .i64 num, .int .i64 1, .int .u64 NN, .slice X kx cx, .slice Y ky cy] 34) = W2 := ⟨_, rfl⟩
      obtain ⟨W2, hW2⟩ := hW2
      rw [hW2] at hS2 hq oX oY hzW
      clear ob orr hb2 r0 r1 r2 r3 r4
      have hcells := hS2.row.five
      have hqf := hq.five
      have hYB := oY.toBs
      have hky : ky = ts + bd.length := by have := hYB.len; rw [List.length_append] at this; have := HC.out.tsz; omega
      have hle := hYB.le
      have hup := Lib.uvarint_pos (8 * num + 1).toNat
      have htp : 1 ≤ ts := by have := HC.out.tsz; omega
      obtain ⟨gy, oy, rfl, _, _, _⟩ := hYB.at_ (by omega)
      have hrest := fun (A : Option Addr) (hA : A = if cy - ts = 0 then some ⟨gy, oy, none⟩ else some ⟨gy, oy + ts, none⟩) => hYB.from_ (K := ts) (by omega) hA
      have hdrop : (Lib.uvarint (8 * num + 1).toNat ++ bd).drop ts = bd := by rw [HC.out.tsz]; simp
      have hkt : ky - ts = bd.length := by omega
      rw [hdrop] at hrest
      have HRE := Lib.hid hrest
      have HKY := Lib.hid hky
      have HKT := Lib.hid hkt
      have i1 : (ts : Int) ≤ (ky : Int) := by omega
      have i2 : (ky : Int) ≤ (cy : Int) := by omega
      have i1n : ts ≤ ky := by omega
      have i2n : ky ≤ cy := by omega
      have hkyb : ky ≤ 50 := by omega
      have HS2 := Lib.hid hS2
      have HQ := Lib.hid hq
      have HX := Lib.hid oX
      obtain ⟨⟨r0, r1, r2, r3, r4⟩, _⟩ := hcells
      obtain ⟨⟨q0, q1, q2, q3, q4⟩, _⟩ := hqf
      clear hrest hky hkt hdrop hYB oY oX hS2 hq HS
      go_wp2_with fail
      refine (H3.out _).mono ?_
      rintro e _ ⟨rfl, rfl⟩
      clear hW2
      go_wp2_with fail
      refine (HC.out.size _).mono ?_
      rintro e _ ⟨rfl, rfl⟩
      by_cases hcK : cy - ts = 0
      all_goals
        go_wp2_with fail
        refine (HC.out.long _).mono ?_
        rintro e w3 ⟨v3, rfl, o3, hb3⟩
        have o3' := o3
        obtain ⟨Z, kz, cz, rfl⟩ := o3.val
        have hs3 := hb3.size
        have hre := (HRE.out _ rfl).below hb3 (Nat.le_refl _)
        simp only [hcK, if_true, if_false] at hre
        have hlen : (lng MO (Lib.uvarint (8 * num + 1).toNat)).length + (ky - ts) ≤ 140737488355328 := by omega
        go_wp2_with (at_builtin; refine wpList_append_bs _ rfl _ _ 22 rfl i0 Try.underlying22 hi0 hz0 hz1 hz2 W2.heap.size _ _ rfl o3' _ _ _ _ _ _ rfl hre hlen hs3 ?_; intro v4 w4 o4 hg4; obtain ⟨hS4, hq4, oX4, hb4⟩ := md_app HS2.out HQ.out HX.out hb3 o3' hg4; obtain ⟨V, kv, cv, rfl⟩ := o4.val; have hst := Lib.hid (md_store (W2 := W2) hS4 hq4 oX4 o4 (by omega) (by omega)); obtain ⟨⟨p0, p1, p2, p3, p4⟩, ⟨f0, f1, f2, f3, f4⟩⟩ := hq4.five; clear hS4 hq4 oX4 o4 hg4 q0 q1 q2 q3 q4)
        clear p0 p1 p2 p3 p4 f0 f1 f2 f3 f4 hre hlen
        obtain ⟨hS5, hq5, oX5, oV5⟩ := hst.out
        clear hst
        have hF := md_fin hS5 hq5 oX5 oV5 (by have := oX5.toBs.len; have := HC.out.nb; omega) (by have := oV5.toBs.len; rw [List.length_append] at this; have := HC.out.lgN; omega) (by have h := HC.out.good; rw [HC.out.out, HC.out.bd2 (by decide)] at h; exact h)
        have hsz5 := hS5.sz
        generalize w4.setCell ⟨w2.heap.size, 4, none⟩ (.slice V kv cv) = W5 at *
        have HF := Lib.hid hF
        obtain ⟨⟨p0, p1, p2, p3, p4⟩, _⟩ := hq5.five
        clear hF hS5 hq5 oX5 oV5
        go_region_with (go_at_call 29; refine (HF.out.chk _ ?_).mono ?_; exact (Below.refl _ _).drew; rintro e w6 ⟨rfl, hb6⟩; have hE := HF.out.end_ _ ((Below.refl _ _).drew.trans hb6); have hQ6 := HF.out.cells _ ((Below.refl _ _).drew.trans hb6); obtain ⟨⟨s0, s1, s2, s3, s4⟩, ⟨t0, t1, t2, t3, t4⟩⟩ := hQ6.1.five; obtain ⟨⟨x0, x1, x2, x3, x4⟩, _⟩ := hQ6.2.five; have HE := Lib.hid hE; clear hE hQ6)
        all_goals
          go_wp2
          exact bodyPost_ret (results_rec Try.results39 _ _ (w.heap.size + 1) _ _ _ _ _ rfl HE.out.1) rfl (by rw [HC.out.out, HC.out.bd2 (by decide)]; exact HE.out.2)
    · obtain rfl : n = N := hNb (by decide)
      clear hNb hN5
      obtain ⟨ts, bb, bd, hC0⟩ := hC (8 * num + 2) (by omega)
      clear hC
      have h10 := hC0.t10
      have hlg := hC0.lg
      have hnd := hC0.nd
      obtain ⟨NN, hNN⟩ : ∃ NN : Nat, (if (2 : Int) = 2 then 0 else n) = NN := ⟨_, rfl⟩
      rw [hNN] at hC0
      clear hNN
      have HC := Lib.hid hC0
      clear hC0
      go_wp2_with fail
      go_region
      go_wp2_with fail
      refine (HC.out.make _ (HS.out.bel.drew)).mono ?_
      rintro e w2 ⟨vb, vr, rfl, ob, orr, hb2⟩
      obtain ⟨X, kx, cx, rfl⟩ := ob.val
      obtain ⟨Y, ky, cy, rfl⟩ := orr.val
      have hs2 : wc.heap.size ≤ w2.heap.size := hb2.size
      have hsz0 : w.heap.size + 2 ≤ wc.drew.heap.size := hsz
      have hS2 := (HS.out.drew.below hb2).alloc (.cells #[.int .i64 num, .int .i64 2, .int .u64 NN, .slice X kx cx, .slice Y ky cy] 34)
      have hq := Blk.new w2 34 #[.int .i64 num, .int .i64 2, .int .u64 NN, .slice X kx cx, .slice Y ky cy]
      have oX := (ob.alloc (.cells #[.int .i64 num, .int .i64 2, .int .u64 NN, .slice X kx cx, .slice Y ky cy] 34)).base_ hsz0
      have oY := (orr.alloc (.cells #[.int .i64 num, .int .i64 2, .int .u64 NN, .slice X kx cx, .slice Y ky cy] 34)).base_ hsz0
      have hzW : (w2.alloc (.cells #[.int .i64 num, .int .i64 2, .int .u64 NN, .slice X kx cx, .slice Y ky cy] 34)).heap.size = w2.heap.size + 1 := by simp
      have hW2 : ∃ W2, w2.alloc (.cells #[.int .i64 num, .int .i64 2, .int .u64 NN, .slice X kx cx, .slice Y ky cy] 34) = W2 := ⟨_, rfl⟩
      obtain ⟨W2, hW2⟩ := hW2
      rw [hW2] at hS2 hq oX oY hzW
      clear ob orr hb2 r0 r1 r2 r3 r4
      have hcells := hS2.row.five
      have hqf := hq.five
      have hYB := oY.toBs
      have hky : ky = ts + bd.length := by have := hYB.len; rw [List.length_append] at this; have := HC.out.tsz; omega
      have hle := hYB.le
      have hup := Lib.uvarint_pos (8 * num + 2).toNat
      have htp : 1 ≤ ts := by have := HC.out.tsz; omega
      obtain ⟨gy, oy, rfl, _, _, _⟩ := hYB.at_ (by omega)
      have hrest := fun (A : Option Addr) (hA : A = if cy - ts = 0 then some ⟨gy, oy, none⟩ else some ⟨gy, oy + ts, none⟩) => hYB.from_ (K := ts) (by omega) hA
      have hdrop : (Lib.uvarint (8 * num + 2).toNat ++ bd).drop ts = bd := by rw [HC.out.tsz]; simp
      have hkt : ky - ts = bd.length := by omega
      rw [hdrop] at hrest
      have HRE := Lib.hid hrest
      have HKY := Lib.hid hky
      have HKT := Lib.hid hkt
      have i1 : (ts : Int) ≤ (ky : Int) := by omega
      have i2 : (ky : Int) ≤ (cy : Int) := by omega
      have i1n : ts ≤ ky := by omega
      have i2n : ky ≤ cy := by omega
      have hkyb : ky ≤ 50 := by omega
      have HS2 := Lib.hid hS2
      have HQ := Lib.hid hq
      have HX := Lib.hid oX
      obtain ⟨⟨r0, r1, r2, r3, r4⟩, _⟩ := hcells
      obtain ⟨⟨q0, q1, q2, q3, q4⟩, _⟩ := hqf
      clear hrest hky hkt hdrop hYB oY oX hS2 hq HS
      go_wp2_with fail
      refine (H3.out _).mono ?_
      rintro e _ ⟨rfl, rfl⟩
      clear hW2
      go_wp2_with fail
      refine (HC.out.size _).mono ?_
      rintro e _ ⟨rfl, rfl⟩
      by_cases hcK : cy - ts = 0
      all_goals
        go_wp2_with fail
        refine (HC.out.long _).mono ?_
        rintro e w3 ⟨v3, rfl, o3, hb3⟩
        have o3' := o3
        obtain ⟨Z, kz, cz, rfl⟩ := o3.val
        have hs3 := hb3.size
        have hre := (HRE.out _ rfl).below hb3 (Nat.le_refl _)
        simp only [hcK, if_true, if_false] at hre
        have hlen : (lng MO (Lib.uvarint (8 * num + 2).toNat)).length + (ky - ts) ≤ 140737488355328 := by omega
        go_wp2_with (at_builtin; refine wpList_append_bs _ rfl _ _ 22 rfl i0 Try.underlying22 hi0 hz0 hz1 hz2 W2.heap.size _ _ rfl o3' _ _ _ _ _ _ rfl hre hlen hs3 ?_; intro v4 w4 o4 hg4; obtain ⟨hS4, hq4, oX4, hb4⟩ := md_app HS2.out HQ.out HX.out hb3 o3' hg4; obtain ⟨V, kv, cv, rfl⟩ := o4.val; have hst := Lib.hid (md_store (W2 := W2) hS4 hq4 oX4 o4 (by omega) (by omega)); obtain ⟨⟨p0, p1, p2, p3, p4⟩, ⟨f0, f1, f2, f3, f4⟩⟩ := hq4.five; clear hS4 hq4 oX4 o4 hg4 q0 q1 q2 q3 q4)
        clear p0 p1 p2 p3 p4 f0 f1 f2 f3 f4 hre hlen
        obtain ⟨hS5, hq5, oX5, oV5⟩ := hst.out
        clear hst
        have hF := md_fin hS5 hq5 oX5 oV5 (by have := oX5.toBs.len; have := HC.out.nb; omega) (by have := oV5.toBs.len; rw [List.length_append] at this; have := HC.out.lgN; omega) (by have h := HC.out.good; rw [HC.out.out, HC.out.bd2 (by decide)] at h; exact h)
        have hsz5 := hS5.sz
        generalize w4.setCell ⟨w2.heap.size, 4, none⟩ (.slice V kv cv) = W5 at *
        have HF := Lib.hid hF
        obtain ⟨⟨p0, p1, p2, p3, p4⟩, _⟩ := hq5.five
        clear hF hS5 hq5 oX5 oV5
        go_region_with (go_at_call 29; refine (HF.out.chk _ ?_).mono ?_; exact (Below.refl _ _).drew; rintro e w6 ⟨rfl, hb6⟩; have hE := HF.out.end_ _ ((Below.refl _ _).drew.trans hb6); have hQ6 := HF.out.cells _ ((Below.refl _ _).drew.trans hb6); obtain ⟨⟨s0, s1, s2, s3, s4⟩, ⟨t0, t1, t2, t3, t4⟩⟩ := hQ6.1.five; obtain ⟨⟨x0, x1, x2, x3, x4⟩, _⟩ := hQ6.2.five; have HE := Lib.hid hE; clear hE hQ6)
        all_goals
          go_wp2
          exact bodyPost_ret (results_rec Try.results39 _ _ (w.heap.size + 1) _ _ _ _ _ rfl HE.out.1) rfl (by rw [HC.out.out, HC.out.bd2 (by decide)]; exact HE.out.2)
    · have hN5' := hN5 rfl
      clear hNb hN5
      obtain ⟨ts, bb, bd, hC0⟩ := hC (8 * num + 5) (by omega)
      clear hC
      have h10 := hC0.t10
      have hlg := hC0.lg
      have hnd := hC0.nd
      obtain ⟨NN, hNN⟩ : ∃ NN : Nat, (if (5 : Int) = 2 then 0 else N) = NN := ⟨_, rfl⟩
      rw [hNN] at hC0
      clear hNN
      have HC := Lib.hid hC0
      clear hC0
      go_wp2_with fail
      go_region
      go_wp2_with fail
      refine (HC.out.make _ (HS.out.bel.drew)).mono ?_
      rintro e w2 ⟨vb, vr, rfl, ob, orr, hb2⟩
      obtain ⟨X, kx, cx, rfl⟩ := ob.val
      obtain ⟨Y, ky, cy, rfl⟩ := orr.val
      have hs2 : wc.heap.size ≤ w2.heap.size := hb2.size
      have hsz0 : w.heap.size + 2 ≤ wc.drew.heap.size := hsz
      have hS2 := (HS.out.drew.below hb2).alloc (.cells #[.int .i64 num, .int .i64 5, .int .u64 NN, .slice X kx cx, .slice Y ky cy] 34)
      have hq := Blk.new w2 34 #[.int .i64 num, .int .i64 5, .int .u64 NN, .slice X kx cx, .slice Y ky cy]
      have oX := (ob.alloc (.cells #[.int .i64 num, .int .i64 5, .int .u64 NN, .slice X kx cx, .slice Y ky cy] 34)).base_ hsz0
      have oY := (orr.alloc (.cells #[.int .i64 num, .int .i64 5, .int .u64 NN, .slice X kx cx, .slice Y ky cy] 34)).base_ hsz0
      have hzW : (w2.alloc (.cells #[.int .i64 num, .int .i64 5, .int .u64 NN, .slice X kx cx, .slice Y ky cy] 34)).heap.size = w2.heap.size + 1 := by simp
      have hW2 : ∃ W2, w2.alloc (.cells #[.int .i64 num, .int .i64 5, .int .u64 NN, .slice X kx cx, .slice Y ky cy] 34) = W2 := ⟨_, rfl⟩
      obtain ⟨W2, hW2⟩ := hW2
      rw [hW2] at hS2 hq oX oY hzW
      clear ob orr hb2 r0 r1 r2 r3 r4
      have hcells := hS2.row.five
      have hqf := hq.five
      have hYB := oY.toBs
      have hky : ky = ts + bd.length := by have := hYB.len; rw [List.length_append] at this; have := HC.out.tsz; omega
      have hle := hYB.le
      have hup := Lib.uvarint_pos (8 * num + 5).toNat
      have htp : 1 ≤ ts := by have := HC.out.tsz; omega
      obtain ⟨gy, oy, rfl, _, _, _⟩ := hYB.at_ (by omega)
      have hrest := fun (A : Option Addr) (hA : A = if cy - ts = 0 then some ⟨gy, oy, none⟩ else some ⟨gy, oy + ts, none⟩) => hYB.from_ (K := ts) (by omega) hA
      have hdrop : (Lib.uvarint (8 * num + 5).toNat ++ bd).drop ts = bd := by rw [HC.out.tsz]; simp
      have hkt : ky - ts = bd.length := by omega
      rw [hdrop] at hrest
      have HRE := Lib.hid hrest
      have HKY := Lib.hid hky
      have HKT := Lib.hid hkt
      have i1 : (ts : Int) ≤ (ky : Int) := by omega
      have i2 : (ky : Int) ≤ (cy : Int) := by omega
      have i1n : ts ≤ ky := by omega
      have i2n : ky ≤ cy := by omega
      have hkyb : ky ≤ 50 := by omega
      have HS2 := Lib.hid hS2
      have HQ := Lib.hid hq
      have HX := Lib.hid oX
      obtain ⟨⟨r0, r1, r2, r3, r4⟩, _⟩ := hcells
      obtain ⟨⟨q0, q1, q2, q3, q4⟩, _⟩ := hqf
      clear hrest hky hkt hdrop hYB oY oX hS2 hq HS
      go_wp2_with fail
      refine (H3.out _).mono ?_
      rintro e _ ⟨rfl, rfl⟩
      clear hW2
      go_wp2_with fail
      refine (HC.out.size _).mono ?_
      rintro e _ ⟨rfl, rfl⟩
      by_cases hcK : cy - ts = 0
      all_goals
        go_wp2_with fail
        refine (HC.out.long _).mono ?_
        rintro e w3 ⟨v3, rfl, o3, hb3⟩
        have o3' := o3
        obtain ⟨Z, kz, cz, rfl⟩ := o3.val
        have hs3 := hb3.size
        have hre := (HRE.out _ rfl).below hb3 (Nat.le_refl _)
        simp only [hcK, if_true, if_false] at hre
        have hlen : (lng MO (Lib.uvarint (8 * num + 5).toNat)).length + (ky - ts) ≤ 140737488355328 := by omega
        go_wp2_with (at_builtin; refine wpList_append_bs _ rfl _ _ 22 rfl i0 Try.underlying22 hi0 hz0 hz1 hz2 W2.heap.size _ _ rfl o3' _ _ _ _ _ _ rfl hre hlen hs3 ?_; intro v4 w4 o4 hg4; obtain ⟨hS4, hq4, oX4, hb4⟩ := md_app HS2.out HQ.out HX.out hb3 o3' hg4; obtain ⟨V, kv, cv, rfl⟩ := o4.val; have hst := Lib.hid (md_store (W2 := W2) hS4 hq4 oX4 o4 (by omega) (by omega)); obtain ⟨⟨p0, p1, p2, p3, p4⟩, ⟨f0, f1, f2, f3, f4⟩⟩ := hq4.five; clear hS4 hq4 oX4 o4 hg4 q0 q1 q2 q3 q4)
        clear p0 p1 p2 p3 p4 f0 f1 f2 f3 f4 hre hlen
        obtain ⟨hS5, hq5, oX5, oV5⟩ := hst.out
        clear hst
        have hF := md_fin hS5 hq5 oX5 oV5 (by have := oX5.toBs.len; have := HC.out.nb; omega) (by have := oV5.toBs.len; rw [List.length_append] at this; have := HC.out.lgN; omega) (by have h := HC.out.good; rw [HC.out.out, HC.out.bd2 (by decide)] at h; exact h)
        have hsz5 := hS5.sz
        generalize w4.setCell ⟨w2.heap.size, 4, none⟩ (.slice V kv cv) = W5 at *
        have HF := Lib.hid hF
        obtain ⟨⟨p0, p1, p2, p3, p4⟩, _⟩ := hq5.five
        clear hF hS5 hq5 oX5 oV5
        go_region_with (go_at_call 29; refine (HF.out.chk _ ?_).mono ?_; exact (Below.refl _ _).drew; rintro e w6 ⟨rfl, hb6⟩; have hE := HF.out.end_ _ ((Below.refl _ _).drew.trans hb6); have hQ6 := HF.out.cells _ ((Below.refl _ _).drew.trans hb6); obtain ⟨⟨s0, s1, s2, s3, s4⟩, ⟨t0, t1, t2, t3, t4⟩⟩ := hQ6.1.five; obtain ⟨⟨x0, x1, x2, x3, x4⟩, _⟩ := hQ6.2.five; have HE := Lib.hid hE; clear hE hQ6)
        all_goals
          go_wp2
          exact bodyPost_ret (results_rec Try.results39 _ _ (w.heap.size + 1) _ _ _ _ _ rfl HE.out.1) rfl (by rw [HC.out.out, HC.out.bd2 (by decide)]; exact HE.out.2)
end Go.Proofs.Ytlckppmggklinaa
