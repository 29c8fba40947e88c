/-
  WireKnown, walked.
-/
import Derived.Test.YtlckppmggklinaaLonger
import Derived.Test.YtlckppmggklinaaZigs
import Derived.Test.YtlckppmggklinaaMakes
import Derived.Test.YtlckppmggklinaaJoins
import Derived.Deep.RegionHeld3
namespace Go.Proofs.Ytlckppmggklinaa
open Go.RowKit
set_option linter.unusedVariables false
attribute [local go_sem ↓] Go.wp_at_zero Go.wp_at_succ

/-- The three tables. -/
structure Kn (w W : World) : Prop where
  t1 : ∀ i, i < 9 → ∃ a : Nat, W.cell? ⟨w.heap.size, i, none⟩ = some (.int .u64 a) ∧ (a : Int) ≤ 18446744073709551615
  t2 : ∀ i, i < 7 → ∃ z : Int, W.cell? ⟨w.heap.size + 1, i, none⟩ = some (.int .i64 z) ∧ -9223372036854775808 ≤ z ∧ z ≤ 9223372036854775807
  t3 : ∀ i, i < 9 → ∃ z : Int, W.cell? ⟨w.heap.size + 2, i, none⟩ = some (.int .i64 z)
  bel : Below w.heap.size w W
  sz : w.heap.size + 3 ≤ W.heap.size
theorem Kn.below {w W W' : World} (h : Kn w W) (hb : Below W.heap.size W W') : Kn w W' := by
  have hs := h.sz
  have := hb.size
  have hc : ∀ g i, g < w.heap.size + 3 → W'.cell? ⟨g, i, none⟩ = W.cell? ⟨g, i, none⟩ := fun g i hg => hb.cell (p := ⟨g, i, none⟩) (by show g < _; omega)
  refine ⟨fun i hi => ?_, fun i hi => ?_, fun i hi => ?_, h.bel.trans (hb.mono (by omega)), by omega⟩
  · rw [hc _ _ (by omega)]; exact h.t1 i hi
  · rw [hc _ _ (by omega)]; exact h.t2 i hi
  · rw [hc _ _ (by omega)]; exact h.t3 i hi

theorem kn_start (w : World) : Kn w (((w.alloc (.cells #[.int .u64 0, .int .u64 1, .int .u64 127, .int .u64 128, .int .u64 4294967295, .int .u64 4294967296, .int .u64 9223372036854775807, .int .u64 9223372036854775808, .int .u64 18446744073709551615] 23)).alloc
    (.cells #[.int .i64 (-9223372036854775808), .int .i64 (-9223372036854775807), .int .i64 (-2), .int .i64 (-1), .int .i64 0, .int .i64 1, .int .i64 9223372036854775807] 2)).alloc
    (.cells #[.int .i64 (-9223372036854775808), .int .i64 (-1), .int .i64 0, .int .i64 1, .int .i64 15, .int .i64 16, .int .i64 536870911, .int .i64 536870912, .int .i64 9223372036854775807] 3)) := by
  have b1 := ((Blk.new w 23 #[.int .u64 0, .int .u64 1, .int .u64 127, .int .u64 128, .int .u64 4294967295, .int .u64 4294967296, .int .u64 9223372036854775807, .int .u64 9223372036854775808, .int .u64 18446744073709551615]).alloc
    (.cells #[.int .i64 (-9223372036854775808), .int .i64 (-9223372036854775807), .int .i64 (-2), .int .i64 (-1), .int .i64 0, .int .i64 1, .int .i64 9223372036854775807] 2)).alloc
    (.cells #[.int .i64 (-9223372036854775808), .int .i64 (-1), .int .i64 0, .int .i64 1, .int .i64 15, .int .i64 16, .int .i64 536870911, .int .i64 536870912, .int .i64 9223372036854775807] 3)
  have b2 := (Blk.new2 w (.cells #[.int .u64 0, .int .u64 1, .int .u64 127, .int .u64 128, .int .u64 4294967295, .int .u64 4294967296, .int .u64 9223372036854775807, .int .u64 9223372036854775808, .int .u64 18446744073709551615] 23) 2
    #[.int .i64 (-9223372036854775808), .int .i64 (-9223372036854775807), .int .i64 (-2), .int .i64 (-1), .int .i64 0, .int .i64 1, .int .i64 9223372036854775807]).alloc
    (.cells #[.int .i64 (-9223372036854775808), .int .i64 (-1), .int .i64 0, .int .i64 1, .int .i64 15, .int .i64 16, .int .i64 536870911, .int .i64 536870912, .int .i64 9223372036854775807] 3)
  have b3 := Blk.new2 (w.alloc (.cells #[.int .u64 0, .int .u64 1, .int .u64 127, .int .u64 128, .int .u64 4294967295, .int .u64 4294967296, .int .u64 9223372036854775807, .int .u64 9223372036854775808, .int .u64 18446744073709551615] 23))
    (.cells #[.int .i64 (-9223372036854775808), .int .i64 (-9223372036854775807), .int .i64 (-2), .int .i64 (-1), .int .i64 0, .int .i64 1, .int .i64 9223372036854775807] 2) 3
    #[.int .i64 (-9223372036854775808), .int .i64 (-1), .int .i64 0, .int .i64 1, .int .i64 15, .int .i64 16, .int .i64 536870911, .int .i64 536870912, .int .i64 9223372036854775807]
  have hz : (w.alloc (.cells #[.int .u64 0, .int .u64 1, .int .u64 127, .int .u64 128, .int .u64 4294967295, .int .u64 4294967296, .int .u64 9223372036854775807, .int .u64 9223372036854775808, .int .u64 18446744073709551615] 23)).heap.size + 1 = w.heap.size + 2 := by simp
  rw [hz] at b3
  refine ⟨fun i hi => ?_, fun i hi => ?_, fun i hi => ?_, (((Below.refl _ _).alloc (Nat.le_refl _) _).alloc (by simp) _).alloc (by simp; omega) _, by simp⟩
  · rw [b1.cell i]
    have : i = 0 ∨ i = 1 ∨ i = 2 ∨ i = 3 ∨ i = 4 ∨ i = 5 ∨ i = 6 ∨ i = 7 ∨ i = 8 := by omega
    rcases this with rfl | rfl | rfl | rfl | rfl | rfl | rfl | rfl | rfl
    · exact ⟨0, rfl, by omega⟩
    · exact ⟨1, rfl, by omega⟩
    · exact ⟨127, rfl, by omega⟩
    · exact ⟨128, rfl, by omega⟩
    · exact ⟨4294967295, rfl, by omega⟩
    · exact ⟨4294967296, rfl, by omega⟩
    · exact ⟨9223372036854775807, rfl, by omega⟩
    · exact ⟨9223372036854775808, rfl, by omega⟩
    · exact ⟨18446744073709551615, rfl, by omega⟩
  · rw [b2.cell i]
    have : i = 0 ∨ i = 1 ∨ i = 2 ∨ i = 3 ∨ i = 4 ∨ i = 5 ∨ i = 6 := by omega
    rcases this with rfl | rfl | rfl | rfl | rfl | rfl | rfl <;> exact ⟨_, rfl, by omega, by omega⟩
  · rw [b3.cell i]
    have : i = 0 ∨ i = 1 ∨ i = 2 ∨ i = 3 ∨ i = 4 ∨ i = 5 ∨ i = 6 ∨ i = 7 ∨ i = 8 := by omega
    rcases this with rfl | rfl | rfl | rfl | rfl | rfl | rfl | rfl | rfl <;> exact ⟨_, rfl⟩

theorem keep3 {W W' : World} {g1 g2 g3 i1 i2 i3 : Nat} {v1 v2 v3 : Value} (hb : Below W.heap.size W W') (h1 : g1 < W.heap.size) (h2 : g2 < W.heap.size) (h3 : g3 < W.heap.size)
    (h : W.cell? ⟨g1, i1, none⟩ = some v1 ∧ W.cell? ⟨g2, i2, none⟩ = some v2 ∧ W.cell? ⟨g3, i3, none⟩ = some v3) : W'.cell? ⟨g1, i1, none⟩ = some v1 ∧ W'.cell? ⟨g2, i2, none⟩ = some v2 ∧ W'.cell? ⟨g3, i3, none⟩ = some v3 := by
  rw [hb.cell (p := ⟨g1, i1, none⟩) h1, hb.cell (p := ⟨g2, i2, none⟩) h2, hb.cell (p := ⟨g3, i3, none⟩) h3]; exact h

theorem keep2 {W W' : World} {g1 g2 i1 i2 : Nat} {v1 v2 : Value} (hb : Below W.heap.size W W') (h1 : g1 < W.heap.size) (h2 : g2 < W.heap.size)
    (h : W.cell? ⟨g1, i1, none⟩ = some v1 ∧ W.cell? ⟨g2, i2, none⟩ = some v2) : W'.cell? ⟨g1, i1, none⟩ = some v1 ∧ W'.cell? ⟨g2, i2, none⟩ = some v2 := by
  rw [hb.cell (p := ⟨g1, i1, none⟩) h1, hb.cell (p := ⟨g2, i2, none⟩) h2]; exact h

theorem lit_reads (W : World) (cs : Array Value) (l : List UInt8) (n : Nat) (h : cs = (Lib.byteCells l).toArray) (hn : n = l.length) (hl : l.length ≤ 1000) :
    Calls Try.prog 5 #[.slice (some ⟨W.heap.size, 0, none⟩) n n] (W.alloc (.cells cs 5)) fun e w' => e = .returned (.bool true) ∧ Below W.heap.size W w' := by
  subst h; subst hn
  refine (reads_any ((Bs.lit W l hl).mono (Nat.zero_le _) (by simp))).mono fun e w' hp => ?_
  exact ⟨hp.1, ((Below.refl _ _).alloc (Nat.le_refl _) _).trans (hp.2.mono (by simp))⟩

/-- Bytes 0. -/
def zs (n : Nat) : List UInt8 := List.replicate n 0
theorem zs_len (n : Nat) : (zs n).length = n := List.length_replicate
theorem own_zeros {w : World} {base n : Nat} {v : Value} (h : w.ownsRow base 5 1 v n (madeCells (Value.int .u8 0).cells (n * 1)).toList) : Own w base v (zs n) := by
  unfold Own
  have e : (madeCells (Value.int .u8 0).cells (n * 1)).toList = Lib.byteCells (zs n) := by
    show (madeCells #[.int .u8 0] (n * 1)).toList = _
    rw [toList_madeCells_one, Nat.mul_one]
    simp [zs, Lib.byteCells]
  rw [zs_len, ← e]
  exact h

theorem own_at {W w : World} {o : Obj} {base n m : Nat} {l : List UInt8} (h : Own w base (.slice (some ⟨(W.alloc o).heap.size, 0, none⟩) n m) l) : Own w base (.slice (some ⟨W.heap.size + 1, 0, none⟩) n m) l := by
  have : (W.alloc o).heap.size = W.heap.size + 1 := by simp
  rwa [this] at h

theorem uvBig : Lib.uvarint 1048577 = [129, 128, 64] := by
  rw [Lib.uvarint_big (by omega), uv_two (by omega) (by omega)]; rfl
theorem nxBig : nxR ([18] ++ [129, 128, 64]) = (5, .zero, 0) := by rfl

/-- A list of one record that is written out. -/
theorem rs_one {W : World} {lo hi m d m' d' : Nat} {B B' : Option Addr} {r : Rc} (hb : Bs W lo hi B m d r.b) (hw : Bs W lo hi B' m' d' r.raw) (hh : hi ≤ W.heap.size) :
    Rs (W.alloc (.cells #[.int .i64 r.num, .int .i64 r.wire, .int .u64 r.n, .slice B m d, .slice B' m' d'] 34)) lo (W.heap.size + 1) (some ⟨W.heap.size, 0, none⟩) 1 1 [r] ∨ W.heap.size < lo := by
  by_cases hl : W.heap.size < lo
  · exact .inr hl
  refine .inl ⟨rfl, by omega, by unfold maxLen; omega, [.agg #[.int .i64 r.num, .int .i64 r.wire, .int .u64 r.n, .slice B m d, .slice B' m' d']], ⟨⟨B, m, d, B', m', d', rfl, (hb.alloc hh _).mono (Nat.le_refl _) (by omega), (hw.alloc hh _).mono (Nat.le_refl _) (by omega)⟩, trivial⟩, fun _ => ⟨_, _, rfl, by omega, by omega, fun k u hu => ?_⟩⟩
  rw [Nat.zero_add, (Blk.new W 34 #[.int .i64 r.num, .int .i64 r.wire, .int .u64 r.n, .slice B m d, .slice B' m' d']).cell k]
  simpa [flat, Value.cells] using hu

/-- The greatest record. -/
def bigR (n : Nat) : Rc := mdR 1 2 0 (zs n) 0
theorem bigR_make (n : Nat) (h : n ≤ 1048576) : mkR 1 2 0 (zs n) = (0, bigR n) := by
  unfold mkR
  have : mayE 1 2 (0 : Nat) ((zs n).length : Int) = 0 := by rw [zs_len]; simp [mayE]; omega
  rw [this]
  simp [bigR, mdR, mkRaw, bodyB, lng]
theorem bigR_good (n : Nat) (h : n ≤ 1048576) : Good (bigR n) := mdR_good (by omega) (by omega) (.inr (.inr (.inl rfl))) (by omega) (fun h => by cases h) (by rw [zs_len]; exact h)
theorem bigR_len (n : Nat) (h : n ≤ 1048576) : n < (bigR n).raw.length ∧ (bigR n).raw.length ≤ n + 20 := by
  have h1 := Lib.uvarint_pos 10
  have h2 := Lib.uvarint_length64 (x := 10) (by omega)
  have h3 := Lib.uvarint_length64 (x := n) (by omega)
  simp [bigR, mdR, bodyB, lng, zs_len]
  omega
theorem big_many (n : Nat) (h : 1048576 < n) : mkR 1 2 0 (zs n) = (5, .zero) := by
  unfold mkR
  have : mayE 1 2 (0 : Nat) ((zs n).length : Int) = 5 := by rw [zs_len]; simp [mayE]; omega
  rw [this]; rfl
theorem big_joined (n : Nat) (h : n = 1048576) : byR [bigR n] = (5, []) := by
  have hl := bigR_len n (by omega)
  have : rawCat [bigR n] = (bigR n).raw := by simp [rawCat]
  rw [byR_good (by intro r hr; simp at hr; subst hr; exact bigR_good n (by omega)), this, if_pos (by omega)]
theorem big_split (n : Nat) (h : 1048576 < n) : spR (zs n) = (5, []) := by unfold spR; rw [if_pos (by rw [zs_len]; exact h)]

set_option maxRecDepth 100000 in
set_option maxHeartbeats 4000000 in
theorem known_any (w : World) : Calls Try.prog 11 #[] w fun e w' => e = .returned (.bool true) ∧ Below w.heap.size w w' := by
  have hst := kn_start w
  go_enter Try.func11, Try.ntmps11
  go_wp2_with fail
  generalize (((w.alloc (.cells #[.int .u64 0, .int .u64 1, .int .u64 127, .int .u64 128, .int .u64 4294967295, .int .u64 4294967296, .int .u64 9223372036854775807, .int .u64 9223372036854775808, .int .u64 18446744073709551615] 23)).alloc
    (.cells #[.int .i64 (-9223372036854775808), .int .i64 (-9223372036854775807), .int .i64 (-2), .int .i64 (-1), .int .i64 0, .int .i64 1, .int .i64 9223372036854775807] 2)).alloc
    (.cells #[.int .i64 (-9223372036854775808), .int .i64 (-1), .int .i64 0, .int .i64 1, .int .i64 15, .int .i64 16, .int .i64 536870911, .int .i64 536870912, .int .i64 9223372036854775807] 3)) = W0 at *
  go_loopw [4] (fun j wr => ∃ i : Nat, j = .int .i64 i ∧ i ≤ 9 ∧ Kn w wr) (fun j _ => 9 - (intOf j).toNat)
  case atStart => exact ⟨0, rfl, by omega, hst⟩
  case round =>
    obtain ⟨i, rfl, hi9, hkn⟩ := hrel
    clear hst
    by_cases hlt : i < 9
    · have hlt' : (i : Int) < 9 := by omega
      go_wp2_with fail
      obtain ⟨wo, hwo⟩ : ∃ wo : World, wo = wr := ⟨_, rfl⟩
      rw [← hwo] at hkn
      simp only [← hwo]
      clear hwo
      go_loopw [5] (fun j wr => ∃ k : Nat, j = .int .i64 k ∧ k ≤ 7 ∧ Kn w wr) (fun j _ => 7 - (intOf j).toNat)
      case atStart => exact ⟨0, rfl, by omega, hkn⟩
      case round =>
        obtain ⟨k, rfl, hk7, hkn2⟩ := hrel
        clear hkn
        by_cases hlt2 : k < 7
        · have hlt2' : (k : Int) < 7 := by omega
          have hi0' : (0 : Int) ≤ (i : Int) := by omega
          have hk0' : (0 : Int) ≤ (k : Int) := by omega
          obtain ⟨a, ha, hab⟩ := hkn2.t1 i hlt
          obtain ⟨z, hz, hz1, hz2⟩ := hkn2.t2 k hlt2
          obtain ⟨q, hq7, hqe⟩ : ∃ q : Nat, q < 7 ∧ (i : Int) % 7 = (q : Int) := ⟨i % 7, by omega, by omega⟩
          obtain ⟨y, hy, hy1, hy2⟩ := hkn2.t2 q hq7
          have hqm : Int.tmod (i : Int) 7 = (q : Int) := by rw [Int.tmod_eq_emod_of_nonneg (by omega)]; exact hqe
          have hq0 : (0 : Int) ≤ (q : Int) := by omega
          have hq1 : (q : Int) < 7 := by omega
          have hqw : IntKind.i64.wrap (q : Int) = (q : Int) := by rw [IntKind.wrap_i64]; omega
          have hsz := hkn2.sz
          have HK := Lib.hid hkn2
          have HN := Lib.hid (fun (W : World) (g lo hi : Nat) (h : Bs W lo hi (some ⟨g, 0, none⟩) 1 1 [9]) (hh : hi ≤ W.heap.size) => numbers_any (a : Int) z (h.mono (Nat.zero_le _) hh) (by omega) hab hz1 hz2)
          have HZ := Lib.hid (fun (W : World) => zigs_any z y (a : Int) W hz1 hz2 hy1 hy2 (by omega) hab)
          have HC := Lib.hid (And.intro ha (And.intro hz hy))
          have hlit : Bs (wr.alloc (.cells #[.int .u8 9] 5)) wr.heap.size (wr.heap.size + 1) (some ⟨wr.heap.size, 0, none⟩) 1 1 [9] := Bs.lit wr [9] (by decide)
          have hgz1 : w.heap.size < wr.heap.size := by omega
          have hgz2 : w.heap.size + 1 < wr.heap.size := by omega
          clear hkn2
          go_wp2_with fail
          go_region_held3 (fun W => W.cell? ⟨w.heap.size, i, none⟩ = some (.int .u64 a) ∧ W.cell? ⟨w.heap.size + 1, k, none⟩ = some (.int .i64 z) ∧ W.cell? ⟨w.heap.size + 1, q, none⟩ = some (.int .i64 y))
            (first | go_keep | exact keep3 hb2 hgz1 hgz2 hgz2 HC.out | exact keep3 hb1 hgz1 hgz2 hgz2 HC.out)
            (first | (go_at_call 3; refine (HN.out _ _ _ _ hlit.drew (by simp)).mono ?_; rintro e w1 ⟨rfl, hb1'⟩; have hb1 : Below wr.heap.size wr w1 := (((Below.refl _ _).alloc (Nat.le_refl _) _).drew).trans (hb1'.mono (by simp)); clear hb1') | (go_at_call 9; refine (HZ.out _).mono ?_; rintro e w2 ⟨rfl, hb2'⟩; have hb2 : Below wr.heap.size wr w2 := hb1.trans (hb2'.mono hb1.size); clear hb2'))
          go_wp2_with fail
          go_roundw
          case rel => exact ⟨k + 1, by go_num, by omega, HK.out.below hb2⟩
          case measure => simp [intOf]; omega
        · go_wp2_with fail
          go_loopw [6] (fun j wr => ∃ k : Nat, j = .int .i64 k ∧ k ≤ 9 ∧ Kn w wr) (fun j _ => 9 - (intOf j).toNat)
          case atStart => exact ⟨0, rfl, by omega, hkn2⟩
          case round =>
            obtain ⟨k3, rfl, hk9, hkn3⟩ := hrel
            clear hkn2
            by_cases hlt3 : k3 < 9
            · have hlt3' : (k3 : Int) < 9 := by omega
              go_wp2_with fail
              go_loopw [7] (fun j wr => ∃ kd : Int, j = .int .i64 kd ∧ -1 ≤ kd ∧ kd ≤ 9 ∧ Kn w wr) (fun j _ => (9 - intOf j).toNat)
              case atStart => exact ⟨-1, rfl, by omega, by omega, hkn3⟩
              case round =>
                obtain ⟨kd, rfl, hkd1, hkd9, hkn4⟩ := hrel
                clear hkn3
                by_cases hlt4 : kd < 9
                · have hi0' : (0 : Int) ≤ (i : Int) := by omega
                  have hk0' : (0 : Int) ≤ (k3 : Int) := by omega
                  obtain ⟨a, ha, hab⟩ := hkn4.t1 i hlt
                  obtain ⟨z, hz⟩ := hkn4.t3 k3 hlt3
                  have hsz := hkn4.sz
                  have HK := Lib.hid hkn4
                  have HM1 := Lib.hid (fun (W : World) (g lo hi : Nat) (h : Bs W lo hi (some ⟨g, 0, none⟩) 2 2 [1, 2]) (hh : hi ≤ W.heap.size) => makes_any (a0 := z) (a1 := kd) (nn := a) (h.mono (Nat.zero_le _) hh) hab)
                  have HM2 := Lib.hid (fun (W : World) => makes_any (w := W) (a0 := 3) (a1 := z) (nn := a) (Bs.none_ W 0 W.heap.size none (c := 0) (by unfold maxLen; omega)) hab)
                  have hlit : Bs (wr.alloc (.cells #[.int .u8 1, .int .u8 2] 5)) wr.heap.size (wr.heap.size + 1) (some ⟨wr.heap.size, 0, none⟩) 2 2 [1, 2] := Bs.lit wr [1, 2] (by decide)
                  have hz' : wr.cell? ⟨w.heap.size + 1 + 1, k3, none⟩ = some (.int .i64 z) := hz
                  have HC := Lib.hid (And.intro ha hz')
                  have hgz1 : w.heap.size < wr.heap.size := by omega
                  have hgz2 : w.heap.size + 1 + 1 < wr.heap.size := by omega
                  clear hkn4 hz
                  go_wp2_with fail
                  go_region_held3 (fun W => W.cell? ⟨w.heap.size, i, none⟩ = some (.int .u64 a) ∧ W.cell? ⟨w.heap.size + 1 + 1, k3, none⟩ = some (.int .i64 z))
                    (first | go_keep | exact keep2 hb2 hgz1 hgz2 HC.out | exact keep2 hb1 hgz1 hgz2 HC.out)
                    (first | (go_at_call_of 4 (Value.slice none 0 0); refine (HM2.out _).mono ?_; rintro e w2 ⟨rfl, hb2'⟩; have hb2 : Below wr.heap.size wr w2 := hb1.trans (hb2'.mono hb1.size); clear hb2') | (go_at_call 4; refine (HM1.out _ _ _ _ hlit.drew (by simp)).mono ?_; rintro e w1 ⟨rfl, hb1'⟩; have hb1 : Below wr.heap.size wr w1 := (((Below.refl _ _).alloc (Nat.le_refl _) _).drew).trans (hb1'.mono (by simp)); clear hb1'))
                  go_wp2_with fail
                  go_roundw
                  case rel => exact ⟨kd + 1, by go_num, by omega, by omega, HK.out.below hb2⟩
                  case measure => simp [intOf]; omega
                · go_wp2_with fail
                  go_roundw
                  case rel => exact ⟨k3 + 1, by go_num, by omega, hkn4⟩
                  case measure => simp [intOf]; omega
            · go_wp2_with fail
              go_roundw
              case rel => exact ⟨i + 1, by go_num, by omega, hkn3⟩
              case measure => simp [intOf]; omega
    · go_wp2_with fail
      go_loopw [8] (fun j wr => ∃ cc : Nat, j = .int .i64 cc ∧ cc ≤ 256 ∧ Below w.heap.size w wr) (fun j _ => 256 - (intOf j).toNat)
      case atStart => exact ⟨0, rfl, by omega, hkn.bel⟩
      case round =>
        obtain ⟨cc, rfl, hc9, hbel⟩ := hrel
        clear hkn
        by_cases hlt5 : cc < 256
        · have hwz := hbel.size
          have hmod : (cc : Int) % 256 = (cc : Int) := by omega
          have hcu : ((UInt8.ofNat cc).toNat : Int) = (cc : Int) := by rw [UInt8.toNat_ofNat']; omega
          have HCU := Lib.hid hcu
          have HW := Lib.hid hbel
          clear hcu
          go_wp2_with fail
          refine (lit_reads _ _ [UInt8.ofNat cc, 1, 2, 3, 4, 5, 6, 7, 8] _ (by simp only [Lib.byteCells, List.map_cons, List.map_nil, HCU.out]; rfl) rfl (by simp)).mono ?_
          rintro e w1 ⟨rfl, hq1⟩
          have hB1 := hbel.trans (hq1.mono hbel.size)
          go_wp2_with fail
          refine (lit_reads _ _ [8, UInt8.ofNat cc] _ (by simp only [Lib.byteCells, List.map_cons, List.map_nil, HCU.out]; rfl) rfl (by simp)).mono ?_
          rintro e w2 ⟨rfl, hq2⟩
          have hB2 := hB1.trans (hq2.mono hB1.size)
          go_wp2_with fail
          refine (lit_reads _ _ [18, UInt8.ofNat cc, 1, 2] _ (by simp only [Lib.byteCells, List.map_cons, List.map_nil, HCU.out]; rfl) rfl (by simp)).mono ?_
          rintro e w3 ⟨rfl, hq3⟩
          have hB3 := hB2.trans (hq3.mono hB2.size)
          go_wp2_with fail
          refine (lit_reads _ _ [UInt8.ofNat cc, 128, 128, 128, 16, 5] _ (by simp only [Lib.byteCells, List.map_cons, List.map_nil, HCU.out]; rfl) rfl (by simp)).mono ?_
          rintro e w4 ⟨rfl, hq4⟩
          have hB4 := hB3.trans (hq4.mono hB3.size)
          go_wp2_with fail
          refine (lit_reads _ _ [8, 255, 255, 255, 255, 255, 255, 255, 255, 255, UInt8.ofNat cc] _ (by simp only [Lib.byteCells, List.map_cons, List.map_nil, HCU.out]; rfl) rfl (by simp)).mono ?_
          rintro e w5 ⟨rfl, hq5⟩
          have hB5 := hB4.trans (hq5.mono hB4.size)
          go_wp2_with fail
          go_roundw
          case rel => exact ⟨cc + 1, by go_num, by omega, hB5⟩
          case measure => simp [intOf]; omega
        · obtain ⟨i0, hi0, hz0, hz1, hz2⟩ := info_parts Try.info5
          go_wp2_with fail
          have hlit : Bs (wr.alloc (.cells #[.int .u8 18] 5)) wr.heap.size (wr.heap.size + 1) (some ⟨wr.heap.size, 0, none⟩) 1 1 [18] := Bs.lit wr [18] (by decide)
          have hwz := hbel.size
          have hv := var_any (1048577 : Int) (by omega) (by omega) hlit (by simp) (by simp)
          rw [show (1048577 : Int).toNat = 1048577 from rfl, uvBig] at hv
          refine hv.mono ?_
          clear hv hlit
          rintro e w1 ⟨v1, rfl, o1, hb1⟩
          obtain ⟨A1, k1, c1, rfl⟩ := o1.val
          have hB1 : Below w.heap.size w w1 := (hbel.alloc hwz _).trans (hb1.mono (by simp; omega))
          have hnx := next_any o1.toBs (Nat.le_refl _) (by have := o1.toBs.len; simp at this; omega)
          rw [nxBig] at hnx
          have HNX := Lib.hid hnx
          clear hnx o1 hb1 hbel
          go_wp2_with fail
          refine HNX.out.mono ?_
          clear HNX
          rintro e w2 ⟨v2, rfl, ⟨vb, vr, rfl, ob, orr⟩, hb2⟩
          obtain ⟨X2, kx2, cx2, rfl⟩ := ob.val
          obtain ⟨Y2, ky2, cy2, rfl⟩ := orr.val
          have hB2 : Below w.heap.size w w2 := hB1.trans (hb2.mono hB1.size)
          have hs2 := hB2.size
          clear ob orr hb2 hB1
          have hbm := bigR_make 1048576 (by omega)
          have hgd := bigR_good 1048576 (by omega)
          have hlr := bigR_len 1048576 (by omega)
          have hjn := big_joined 1048576 rfl
          have hmm := big_many 1048577 (by omega)
          have hsp := big_split 1048577 (by omega)
          have hbl : (bigR 1048576).b.length ≤ 1048576 := by simp [bigR, mdR, zs_len]
          generalize bigR 1048576 = r at *
          obtain ⟨z1, hz1'⟩ : ∃ z, zs 1048577 = z := ⟨_, rfl⟩
          obtain ⟨z2, hz2'⟩ : ∃ z, zs 1048576 = z := ⟨_, rfl⟩
          rw [hz1'] at hmm hsp
          rw [hz2'] at hbm
          have HZ1 := Lib.hid hz1'
          have HZ2 := Lib.hid hz2'
          have HBM := Lib.hid hbm
          have HGD := Lib.hid hgd
          have HJN := Lib.hid hjn
          have HMM := Lib.hid hmm
          have HSP := Lib.hid hsp
          have hl1 : z1.length = 1048577 := by rw [← hz1', zs_len]
          have hl2 : z2.length = 1048576 := by rw [← hz2', zs_len]
          have hlr1 := hlr.2
          clear hz1' hz2' hbm hgd hjn hmm hsp hlr
          go_wp2_with (at_make; refine wpList_make_full _ rfl _ _ 22 rfl w.heap.size 5 i0 (.int .u8 0) 1 Try.underlying22 hi0 hz0 hz1 .i64 .i64 _ _ 1048577 rfl rfl rfl rfl (by rw [hz2]; omega) (by unfold maxLen; omega) (by simp; omega) ?_; intro w3 hown3 hgrow3; have o3 := own_at (own_zeros hown3); rw [HZ1.out] at o3; clear hown3)
          have hB3 : Below w.heap.size w w3 := Below.grown (hB2.alloc hs2 _) hgrow3 (by simp; omega) (fun _ h => by cases h)
          have hs3 := hB3.size
          have hm := make_any (num := 1) (wire := 2) (n := 0) o3.toBs (Nat.le_refl _) (by omega)
          rw [HMM.out] at hm
          refine hm.mono ?_
          clear hm o3 hgrow3 hB2 hs2
          rintro e w4 ⟨v4, rfl, ⟨vb4, vr4, rfl, ob4, or4⟩, hb4⟩
          obtain ⟨X4, kx4, cx4, rfl⟩ := ob4.val
          obtain ⟨Y4, ky4, cy4, rfl⟩ := or4.val
          have hB4 := hB3.trans (hb4.mono hs3)
          have hs4 := hB4.size
          clear ob4 or4 hb4 hB3 hs3
          go_wp2_with (at_make; refine wpList_make_full _ rfl _ _ 22 rfl w.heap.size 5 i0 (.int .u8 0) 1 Try.underlying22 hi0 hz0 hz1 .i64 .i64 _ _ 1048576 rfl rfl rfl rfl (by rw [hz2]; omega) (by unfold maxLen; omega) (by simp; omega) ?_; intro w5 hown5 hgrow5; have o5 := own_at (own_zeros hown5); rw [HZ2.out] at o5; clear hown5)
          have hB5 : Below w.heap.size w w5 := Below.grown (hB4.alloc hs4 _) hgrow5 (by simp; omega) (fun _ h => by cases h)
          have hs5 := hB5.size
          have hm := make_any (num := 1) (wire := 2) (n := 0) o5.toBs (Nat.le_refl _) (by omega)
          rw [HBM.out] at hm
          refine hm.mono ?_
          clear hm o5 hgrow5 hB4 hs4
          rintro e w6 ⟨v6, rfl, ⟨vb6, vr6, rfl, ob6, or6⟩, hb6⟩
          obtain ⟨X6, kx6, cx6, rfl⟩ := ob6.val
          obtain ⟨Y6, ky6, cy6, rfl⟩ := or6.val
          have hB6 := hB5.trans (hb6.mono hs5)
          have hs6 := hb6.size
          have hbb := ob6.toBs.alloc (Nat.le_refl _) (.cells #[.int .i64 r.num, .int .i64 r.wire, .int .u64 r.n, .slice X6 kx6 cx6, .slice Y6 ky6 cy6] 34)
          have hbr := or6.toBs.alloc (Nat.le_refl _) (.cells #[.int .i64 r.num, .int .i64 r.wire, .int .u64 r.n, .slice X6 kx6 cx6, .slice Y6 ky6 cy6] 34)
          have hq := Blk.new w6 34 #[.int .i64 r.num, .int .i64 r.wire, .int .u64 r.n, .slice X6 kx6 cx6, .slice Y6 ky6 cy6]
          have hz6 : (w6.alloc (.cells #[.int .i64 r.num, .int .i64 r.wire, .int .u64 r.n, .slice X6 kx6 cx6, .slice Y6 ky6 cy6] 34)).heap.size = w6.heap.size + 1 := by simp
          have hBW := hB6.alloc hB6.size (.cells #[.int .i64 r.num, .int .i64 r.wire, .int .u64 r.n, .slice X6 kx6 cx6, .slice Y6 ky6 cy6] 34)
          have hky6 := or6.toBs.len
          obtain ⟨W6, hW6⟩ : ∃ W6, w6.alloc (.cells #[.int .i64 r.num, .int .i64 r.wire, .int .u64 r.n, .slice X6 kx6 cx6, .slice Y6 ky6 cy6] 34) = W6 := ⟨_, rfl⟩
          rw [hW6] at hbb hbr hq hz6 hBW
          clear ob6 or6 hb6 hB6 hB5
          have hrs := (rs_one hbb hbr (by omega)).resolve_right (by omega)
          have hby := bytes_any hrs (by simp) (by omega) (by intro q hq; simp at hq; subst hq; omega)
          rw [HJN.out, hz6] at hby
          have HBY := Lib.hid hby
          have hQq := hq.five
          obtain ⟨⟨q0, q1, q2, q3, q4⟩, _⟩ := hQq
          clear hby hrs
          go_wp2_with fail
          refine HBY.out.mono ?_
          clear hW6 HBY q0 q1 q2 q3 q4
          rintro e w7 ⟨v7, rfl, o7, hb7⟩
          obtain ⟨X7, kx7, cx7, rfl⟩ := o7.val
          have hb7' : Below W6.heap.size W6 w7 := ((Below.refl _ _).alloc (Nat.le_refl _) _).trans (hb7.mono (by simp))
          have hB7 := hBW.trans (hb7'.mono hBW.size)
          have hs7 := hB7.size
          clear o7 hb7
          go_wp2_with (at_make; refine wpList_make_full _ rfl _ _ 22 rfl w.heap.size 5 i0 (.int .u8 0) 1 Try.underlying22 hi0 hz0 hz1 .i64 .i64 _ _ 1048577 rfl rfl rfl rfl (by rw [hz2]; omega) (by unfold maxLen; omega) (by omega) ?_; intro w8 hown8 hgrow8; have o8 := own_zeros hown8; rw [HZ1.out] at o8; clear hown8)
          have hb8 : Below w7.heap.size w7 w8 := Below.grown (Below.refl _ _) hgrow8 (Nat.le_refl _) (fun _ h => by cases h)
          have hs8 := hb8.size
          have hspl := split_any o8.toBs (Nat.le_refl _) (by omega)
          rw [HSP.out] at hspl
          refine hspl.mono ?_
          clear hspl o8 hgrow8
          rintro e w9 ⟨A9, c9, rfl, _, hb9⟩
          have hb79 : Below W6.heap.size W6 w9 := (hb7'.trans (hb8.mono hb7'.size)).trans (hb9.mono (Nat.le_trans hb7'.size hs8))
          go_wp2_with fail
          refine (works_any _).mono ?_
          rintro e w10 ⟨rfl, hb10⟩
          have hb70 := hb79.trans (hb10.mono hb79.size)
          have hs70 := hb70.size
          obtain ⟨⟨q0, q1, q2, q3, q4⟩, _⟩ := (hq.below hb70 (by omega)).five
          have hck := check_any (r := r) (hbb.below hb70 (by omega)) (hbr.below hb70 (by omega)) (by omega) (by omega)
          rw [HGD.out.chk] at hck
          have HCK := Lib.hid hck
          clear hck
          go_wp2_with fail
          refine HCK.out.mono ?_
          rintro e w11 ⟨rfl, hb11⟩
          have hck := check_any (w := w11) (r := .zero) (Bs.none_ w11 0 w11.heap.size none (c := 0) (by unfold maxLen; omega)) (Bs.none_ w11 0 w11.heap.size none (c := 0) (by unfold maxLen; omega)) (Nat.le_refl _) (by omega)
          rw [show chkE .zero = 2 by decide] at hck
          have HCK2 := Lib.hid hck
          clear hck
          go_wp2_with fail
          refine HCK2.out.mono ?_
          rintro e w12 ⟨rfl, hb12⟩
          go_wp2_with fail
          refine (joins_any (Rs.nil w12 0 w12.heap.size none (c := 0) (by unfold maxLen; omega))).mono ?_
          rintro e w13 ⟨rfl, hb13⟩
          go_wp2
          go_ret
          have hf := ((hb70.trans (hb11.mono hs70)).trans (hb12.mono (Nat.le_trans hs70 hb11.size))).trans (hb13.mono (Nat.le_trans (Nat.le_trans hs70 hb11.size) hb12.size))
          exact ⟨rfl, hBW.trans (hf.mono hBW.size)⟩
end Go.Proofs.Ytlckppmggklinaa
