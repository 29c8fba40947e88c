/-
  WireSizes, walked.
-/
import Derived.Test.YtlckppmggklinaaBack
namespace Go.Proofs.Ytlckppmggklinaa
open Go.RowKit
set_option linter.unusedVariables false
attribute [local go_sem ↓] Go.wp_at_zero Go.wp_at_succ

theorem uv_mono : ∀ (f a b : Nat), b < 128 ^ f → a ≤ b → (Lib.uvarint a).length ≤ (Lib.uvarint b).length
  | 0, a, b, hf, h => by
    have hb : b = 0 := by simpa using hf
    have ha : a = 0 := by omega
    rw [ha, hb]; exact Nat.le_refl _
  | f + 1, a, b, hf, h => by
    by_cases ha : a < 128
    · rw [Lib.uvarint_small ha]
      have := Lib.uvarint_pos b
      simpa using this
    · rw [Lib.uvarint_big (by omega), Lib.uvarint_big (show 128 ≤ b by omega), List.length_cons, List.length_cons]
      have := uv_mono f (a / 128) (b / 128) (by rw [Nat.pow_succ] at hf; exact Nat.div_lt_of_lt_mul (by rw [Nat.mul_comm]; exact hf)) (by omega)
      omega
theorem pow_size : ∀ k : Fin 64, (Lib.bitLen (2 ^ k.val ||| 1) + 6) / 7 = k.val / 7 + 1 := by decide +kernel
theorem pow_size1 : ∀ k : Fin 64, (Lib.bitLen ((2 ^ k.val - 1) ||| 1) + 6) / 7 = max 1 ((k.val + 6) / 7) := by decide +kernel
theorem uv_pow (k : Nat) (h : k < 64) : (Lib.uvarint (2 ^ k)).length = k / 7 + 1 := by
  have h2 : 2 ^ k < 2 ^ 64 := Nat.pow_lt_pow_right (by omega) h
  rw [← size_eq _ h2]; exact pow_size ⟨k, h⟩
theorem uv_pow1 (k : Nat) (h : k < 64) : (Lib.uvarint (2 ^ k - 1)).length = max 1 ((k + 6) / 7) := by
  have h2 : 2 ^ k < 2 ^ 64 := Nat.pow_lt_pow_right (by omega) h
  rw [← size_eq _ (by omega)]; exact pow_size1 ⟨k, h⟩

/-- Make, of the parts of a record that was made of a row: the same, in the fewest bytes. -/
theorem mk_of_md (x : Rw) (hn : (x.n : Int) ≤ 18446744073709551615) : ∃ raw, mkR (mdX x).num (mdX x).wire (mdX x).n (mdX x).b = (0, ⟨(mdX x).num, (mdX x).wire, (mdX x).n, (mdX x).b, raw⟩) ∧ raw.length ≤ (mdX x).raw.length ∧ ((mdX x).n : Int) ≤ 18446744073709551615 ∧ (mdX x).b.length ≤ 30 := by
  have l1 := brg_lt x.num 536870911 (by omega)
  have hk := kind_cases x.wire
  unfold mdX
  generalize kindN (brg x.wire 4 : Nat) = K at *
  have hN : (if K = 5 then x.n % 4294967296 else x.n) < 2 ^ 64 := by split <;> omega
  have hN5 : K = 5 → (if K = 5 then x.n % 4294967296 else x.n) < 4294967296 := by intro h; rw [if_pos h]; omega
  generalize (if K = 5 then x.n % 4294967296 else x.n) = N at *
  have hb : (x.b.take 30).length ≤ 30 := by simp; omega
  generalize x.b.take 30 = b at *
  generalize brg x.more 4 = m at *
  have h1 : 1 ≤ (1 : Int) + (brg x.num 536870911 : Nat) := by omega
  have h2 : (1 : Int) + (brg x.num 536870911 : Nat) ≤ 536870911 := by omega
  generalize (1 : Int) + (brg x.num 536870911 : Nat) = num at *
  simp only [mdR]
  have hT := (lng_uv m (8 * num + K).toNat (by omega)).2.1
  have hV := (lng_uv m N hN).2.1
  have hb2 : (if K = 2 then b else []).length ≤ 30 := by
    split
    · exact hb
    · simp
  refine ⟨mkRaw num K (if K = 2 then 0 else N) (if K = 2 then b else []), ?_, ?_, by split <;> omega, hb2⟩
  · rw [mkR_ok h1 h2 hk (by intro h; rw [if_neg (by omega)]; exact hN5 h) hb2]
    unfold mkS
    by_cases q : K = 2 <;> simp [q]
  · simp only [List.length_append]
    have : mkRaw num K (if K = 2 then 0 else N) (if K = 2 then b else []) = Lib.uvarint (8 * num + K).toNat ++ bodyB 0 K N b := by
      unfold mkRaw bodyB
      rcases hk with rfl | rfl | rfl | rfl <;> simp [lng]
    rw [this, List.length_append]
    have : (bodyB 0 K N b).length ≤ (bodyB m K N b).length := by
      unfold bodyB
      rcases hk with rfl | rfl | rfl | rfl
      · simp only [if_true]; exact hV
      · simp
      · simp
      · simp
    omega

structure SzC (n : Nat) (k P s1 s2 s3 s4 : Nat) : Prop where
  c1 : ∀ W, Calls Try.prog 16 #[.int .u64 P] W fun e w' => e = .returned (.int .i64 (s1 : Int)) ∧ W = w'
  c2 : ∀ W, Calls Try.prog 16 #[.int .u64 ((P : Int) - 1)] W fun e w' => e = .returned (.int .i64 (s2 : Int)) ∧ W = w'
  c3 : ∀ W, Calls Try.prog 16 #[.int .u64 n] W fun e w' => e = .returned (.int .i64 (s3 : Int)) ∧ W = w'
  c4 : ∀ W, Calls Try.prog 16 #[.int .u64 ((n : Int) / 2)] W fun e w' => e = .returned (.int .i64 (s4 : Int)) ∧ W = w'
  var : ∀ (W : World) (lo hi m c : Nat) (A : Option Addr), Bs W lo hi A m c [1, 2] → hi ≤ W.heap.size → Calls Try.prog 13 #[.slice A m c, .int .u64 n] W fun e w' => ∃ A' c', e = .returned (.slice A' (2 + s3) c') ∧ Below W.heap.size W w'
  e1 : (s1 : Int) = (k : Int) / 7 + 1
  e2 : (s2 : Int) = max 1 (((k : Int) + 6) / 7)
  p3 : 1 ≤ s3
  t3 : s3 ≤ 10
  l4 : s4 ≤ s3
theorem szC (n k : Nat) (hn : (n : Int) ≤ 18446744073709551615) (hk : k < 64) : ∃ s1 s2 s3 s4, SzC n k (2 ^ k) s1 s2 s3 s4 := by
  have hp : 2 ^ k ≤ 2 ^ 63 := Nat.pow_le_pow_right (by omega) (by omega)
  have hp1 : 1 ≤ 2 ^ k := Nat.one_le_two_pow
  have hu := uv_pow k hk
  have hu1 := uv_pow1 k hk
  have hc : (((2 ^ k - 1 : Nat) : Nat) : Int) = ((2 ^ k : Nat) : Int) - 1 := by omega
  generalize hP : 2 ^ k = P at *
  refine ⟨_, _, _, _, fun W => size_any _ W (by omega) (by omega), fun W => size_any _ W (by omega) (by omega), fun W => size_any _ W (by omega) hn, fun W => size_any _ W (by omega) (by omega), fun W lo hi m c A h hh => ?_, ?_, ?_, Lib.uvarint_pos _, Lib.uvarint_length64 (by omega), ?_⟩
  · refine (var_any (n : Int) (by omega) hn h hh (by simp)).mono fun e w' hp => ?_
    obtain ⟨v, rfl, ho, hb⟩ := hp
    obtain ⟨A', c', rfl, _⟩ := ho.bs
    refine ⟨A', c', ?_, hb⟩
    simp
    omega
  · rw [Int.toNat_natCast, hu]; omega
  · rw [show ((P : Int) - 1).toNat = P - 1 by omega, hu1]; omega
  · rw [show ((n : Int) / 2).toNat = n / 2 by omega, Int.toNat_natCast]
    exact uv_mono 10 (n / 2) n (by omega) (by omega)

set_option maxRecDepth 100000 in
set_option maxHeartbeats 4000000 in
theorem sizes_any {w : World} {m d n : Nat} {bit : Int} {B : Option Addr} {x : Rw} (hB : Bs w 0 w.heap.size B m d x.b) (hxn : (x.n : Int) ≤ 18446744073709551615) (hn : (n : Int) ≤ 18446744073709551615) :
    Calls Try.prog 10 #[.int .u64 n, .int .i64 bit, .agg #[.int .i64 x.num, .int .i64 x.wire, .int .u64 x.n, .slice B m d, .int .i64 x.more]] w fun e w' => e = .returned (.bool true) ∧ Below w.heap.size w w' := by
  have hbr : ∀ W : World, Calls Try.prog 40 #[.int .i64 bit, .int .i64 64] W fun e w' => e = .returned (.int .i64 (brg bit 64 : Nat)) ∧ W = w' := fun W => bring_any bit 64 W (by omega) (by omega)
  have hk := brg_lt bit 64 (by omega)
  generalize brg bit 64 = k at *
  have hMd : ∀ W, Below w.heap.size w W → Calls Try.prog 39 #[.agg #[.int .i64 x.num, .int .i64 x.wire, .int .u64 x.n, .slice B m d, .int .i64 x.more]] W (MadeP W (mdX x)) := fun W h => made_core (hB.below h (Nat.le_refl _)) h.size hxn
  obtain ⟨raw, hmk, hrl, hrn, hrb⟩ := mk_of_md x hxn
  obtain ⟨r, hr⟩ : ∃ r, mdX x = r := ⟨_, rfl⟩
  rw [hr] at hmk hrl hrn hrb
  simp only [hr] at hMd
  obtain ⟨s1, s2, s3, s4, hC⟩ := szC n k hn hk
  have hp : 2 ^ k ≤ 2 ^ 63 := Nat.pow_le_pow_right (by omega) (by omega)
  have hp1 : 1 ≤ 2 ^ k := Nat.one_le_two_pow
  have hsh : IntKind.u64.wrap (2 ^ k) = ((2 ^ k : Nat) : Int) := by
    rw [IntKind.wrap_u64, show ((2 : Int) ^ k) = ((2 ^ k : Nat) : Int) by norm_cast]; omega
  generalize hP : 2 ^ k = P at *
  have b1 : ((s1 : Int) != (k : Int) / 7 + 1) = false := by rw [hC.e1]; simp
  have b2 : ((s2 : Int) != max 1 (((k : Int) + 6) / 7)) = false := by rw [hC.e2]; simp
  have b5 : ((2 + s3 : Int) != 2 + (s3 : Int)) = false := by simp
  have p3 := hC.p3
  have t3 := hC.t3
  have l4 := hC.l4
  have i3 : ¬ (s3 : Int) < 1 := by omega
  have i3' : ¬ (10 : Int) < (s3 : Int) := by omega
  have i4 : ¬ (s3 : Int) < (s4 : Int) := by omega
  have d1 : decide ((s3 : Int) < 1) = false := by simp; omega
  have d2 : decide ((10 : Int) < (s3 : Int)) = false := by simp; omega
  have d3 : decide ((s3 : Int) < (s4 : Int)) = false := by simp; omega
  have d4 : decide (s3 < s4) = false := by simp; omega
  have HBR := Lib.hid hbr
  have HMD := Lib.hid hMd
  have HMK := Lib.hid hmk
  have HC := Lib.hid hC
  have HBs := Lib.hid hB
  clear hbr hMd hmk hC hr hP hB
  go_enter Try.func10, Try.ntmps10
  go_wp2_with fail
  refine (HBR.out _).mono ?_
  rintro e _ ⟨rfl, rfl⟩
  go_wp2_with fail
  refine (HC.out.c1 _).mono ?_
  rintro e _ ⟨rfl, rfl⟩
  go_wp2_with fail
  refine (HC.out.c2 _).mono ?_
  rintro e _ ⟨rfl, rfl⟩
  go_wp2_with fail
  refine (HC.out.c3 _).mono ?_
  rintro e _ ⟨rfl, rfl⟩
  go_wp2_with fail
  refine (HC.out.c3 _).mono ?_
  rintro e _ ⟨rfl, rfl⟩
  go_wp2_with fail
  refine (HC.out.c4 _).mono ?_
  rintro e _ ⟨rfl, rfl⟩
  go_wp2_with fail
  refine (HC.out.c3 _).mono ?_
  rintro e _ ⟨rfl, rfl⟩
  go_wp2_with fail
  have hO : ∃ O, w.alloc (.cells #[.int .i64 x.num, .int .i64 x.wire, .int .u64 x.n, .slice B m d, .int .i64 x.more] 56) = O := ⟨_, rfl⟩
  obtain ⟨O, hO⟩ := hO
  have hrow := Blk.new w 56 #[.int .i64 x.num, .int .i64 x.wire, .int .u64 x.n, .slice B m d, .int .i64 x.more]
  have hbO := (Below.refl w.heap.size w).alloc (Nat.le_refl _) (.cells #[.int .i64 x.num, .int .i64 x.wire, .int .u64 x.n, .slice B m d, .int .i64 x.more] 56)
  have hzO : (w.alloc (.cells #[.int .i64 x.num, .int .i64 x.wire, .int .u64 x.n, .slice B m d, .int .i64 x.more] 56)).heap.size = w.heap.size + 1 := by simp
  rw [hO] at hrow hbO hzO
  simp only [hO]
  clear hO
  have hlit : Bs (O.alloc (.cells #[.int .u8 1, .int .u8 2] 5)) (w.heap.size + 1) (w.heap.size + 2) (some ⟨w.heap.size + 1, 0, none⟩) 2 2 [1, 2] := by
    have := Bs.lit O [1, 2] (by decide)
    rw [hzO] at this
    exact this
  have hzL : (O.alloc (.cells #[.int .u8 1, .int .u8 2] 5)).heap.size = w.heap.size + 2 := by simp; omega
  have hbL := hbO.alloc (by omega) (.cells #[.int .u8 1, .int .u8 2] 5)
  have hrowL := hrow.alloc (.cells #[.int .u8 1, .int .u8 2] 5)
  refine (HC.out.var _ _ _ _ _ _ hlit (by omega)).mono ?_
  clear hlit
  rintro e w1 ⟨A1, c1, rfl, hb1⟩
  have hs1 := hb1.size
  have hrow1 := hrowL.below hb1 (by omega)
  have hW1 := hbL.trans (hb1.mono (by omega))
  clear hrow hrowL hbL hb1 hbO hzO
  obtain ⟨⟨r0, r1, r2, r3, r4⟩, _⟩ := hrow1.five
  have hc2 : ((2 + s3 : Nat) : Int) = 2 + (s3 : Int) := by omega
  go_wp2_with fail
  refine (HC.out.c3 _).mono ?_
  rintro e _ ⟨rfl, rfl⟩
  go_wp2_with fail
  refine (HMD.out _ hW1).mono ?_
  rintro e w2 ⟨v2, rfl, ⟨vb, vr, rfl, ob, orr⟩, hb2⟩
  obtain ⟨X, kx, cx, rfl⟩ := ob.val
  obtain ⟨Y, ky, cy, rfl⟩ := orr.val
  have hs2 := hb2.size
  have hq := Blk.new w2 34 #[.int .i64 r.num, .int .i64 r.wire, .int .u64 r.n, .slice X kx cx, .slice Y ky cy]
  have hX := ob.toBs.alloc (Nat.le_refl _) (.cells #[.int .i64 r.num, .int .i64 r.wire, .int .u64 r.n, .slice X kx cx, .slice Y ky cy] 34)
  have hky := orr.toBs.len
  have hW2 := (hW1.trans (hb2.mono hW1.size)).alloc (Nat.le_trans hW1.size hs2) (.cells #[.int .i64 r.num, .int .i64 r.wire, .int .u64 r.n, .slice X kx cx, .slice Y ky cy] 34)
  have hz2 : (w2.alloc (.cells #[.int .i64 r.num, .int .i64 r.wire, .int .u64 r.n, .slice X kx cx, .slice Y ky cy] 34)).heap.size = w2.heap.size + 1 := by simp
  have hE : ∃ W2, w2.alloc (.cells #[.int .i64 r.num, .int .i64 r.wire, .int .u64 r.n, .slice X kx cx, .slice Y ky cy] 34) = W2 := ⟨_, rfl⟩
  obtain ⟨W2, hE⟩ := hE
  rw [hE] at hq hX hW2 hz2
  have hmk := make_any (num := r.num) (wire := r.wire) (n := r.n) hX (by omega) hrn
  rw [HMK.out] at hmk
  have HMk := Lib.hid hmk
  have HX := Lib.hid hX
  have HQ := Lib.hid hq
  obtain ⟨⟨q0, q1, q2, q3, q4⟩, _⟩ := hq.five
  have HKY := Lib.hid hky
  clear hmk hX hq hky ob orr hb2 r0 r1 r2 r3 r4
  go_wp2_with fail
  refine HMk.out.mono ?_
  clear hE
  rintro e w3 ⟨v3, rfl, ⟨vb3, vr3, rfl, ob3, orr3⟩, hb3⟩
  simp only at ob3 orr3
  obtain ⟨Z, kz, cz, rfl⟩ := ob3.val
  obtain ⟨V, kv, cv, rfl⟩ := orr3.val
  have hs3 := hb3.size
  have hkv : kv ≤ ky := by have := orr3.toBs.len; have := HKY.out; omega
  have hkv' : (kv : Int) ≤ (ky : Int) := by omega
  have hkvd : decide ((kv : Int) ≤ (ky : Int)) = true := by simp; omega
  have hkvn : decide (kv ≤ ky) = true := by simp; omega
  have hnn : ((r.n : Int) == (r.n : Int)) = true := by simp
  have hq3 := (HQ.out.below hb3 (by omega)).alloc (.cells #[.int .i64 r.num, .int .i64 r.wire, .int .u64 r.n, .slice Z kz cz, .slice V kv cv] 34)
  obtain ⟨⟨p0, p1, p2, p3_, p4⟩, _⟩ := hq3.five
  have hqb := eqb_any (ob3.toBs.alloc (Nat.le_refl _) (.cells #[.int .i64 r.num, .int .i64 r.wire, .int .u64 r.n, .slice Z kz cz, .slice V kv cv] 34)) ((HX.out.below hb3 (by omega)).alloc (by omega) (.cells #[.int .i64 r.num, .int .i64 r.wire, .int .u64 r.n, .slice Z kz cz, .slice V kv cv] 34))
  rw [show (r.b == r.b) = true by simp] at hqb
  have HQB := Lib.hid hqb
  have hW3 := (hW2.trans (hb3.mono hW2.size)).alloc (Nat.le_trans hW2.size hs3) (.cells #[.int .i64 r.num, .int .i64 r.wire, .int .u64 r.n, .slice Z kz cz, .slice V kv cv] 34)
  clear hqb ob3 orr3 hq3 q0 q1 q2 q3 q4 hb3
  go_wp2_with fail
  refine HQB.out.mono ?_
  rintro e _ ⟨rfl, rfl⟩
  go_wp2_with fail
  refine (works_any _).mono ?_
  rintro e w5 ⟨rfl, hb5⟩
  go_wp2
  go_ret
  exact ⟨rfl, hW3.trans (hb5.mono hW3.size)⟩
end Go.Proofs.Ytlckppmggklinaa
