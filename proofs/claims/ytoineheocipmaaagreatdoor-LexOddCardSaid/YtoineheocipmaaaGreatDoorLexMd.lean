/-
  lex: the word of a seed.
-/
import Derived.Test.YtoineheocipmaaaGreatDoorLexS
namespace Go.Proofs.YtoineheocipmaaaGreatDoor
open Go.RowKit
set_option linter.unusedVariables false
set_option linter.unusedSimpArgs false

structure Sd where
  k : Int
  n : Int
  b : List UInt8
def madeS (x : Sd) : Wi := madeW (brg x.k 6) (brg x.n 2147483649) x.b
def wiV (y : Wi) : Value := .agg #[.int .i64 y.k, .int .i64 y.p, .string y.t, .int .i64 y.n]
def MadeP (w : World) (y : Wi) (e : Ending) (w' : World) : Prop := e = .returned (wiV y) ∧ Below w.heap.size w w'
theorem two97 (w : World) (a b : Array Value) : Blk ((w.alloc (.cells a 97)).alloc (.cells b 33)) w.heap.size 97 a ∧ Blk ((w.alloc (.cells a 97)).alloc (.cells b 33)) (w.heap.size + 1) 33 b ∧ Below w.heap.size w ((w.alloc (.cells a 97)).alloc (.cells b 33)) := by
  have h2 := Blk.new (w.alloc (.cells a 97)) 33 b
  rw [World.size_alloc] at h2
  exact ⟨Blk.alloc (Blk.new w 97 a) _, h2, ((Below.refl _ w).alloc (Nat.le_refl _) _).alloc (by simp) _⟩
/-- What stands in memory while a word is made. -/
structure MdW (w : World) (hi : Nat) (x : Sd) (B : Option Addr) (m d : Nat) (W : World) : Prop where
  sd : Blk W w.heap.size 97 #[.int .i64 x.k, .int .i64 x.n, .slice B m d]
  z : Blk W (w.heap.size + 1) 33 #[.int .i64 0, .int .i64 0, .string ⟨#[]⟩, .int .i64 0]
  bs : Bs W 0 hi B m d x.b
  bel : Below w.heap.size w W
theorem MdW.start {w : World} {hi : Nat} {x : Sd} {B : Option Addr} {m d : Nat} (hb : Bs w 0 hi B m d x.b) (hhi : hi ≤ w.heap.size) :
    MdW w hi x B m d ((w.alloc (.cells #[.int .i64 x.k, .int .i64 x.n, .slice B m d] 97)).alloc (.cells #[.int .i64 0, .int .i64 0, .string ⟨#[]⟩, .int .i64 0] 33)) := by
  obtain ⟨t1, t2, t3⟩ := two97 w #[.int .i64 x.k, .int .i64 x.n, .slice B m d] #[.int .i64 0, .int .i64 0, .string ⟨#[]⟩, .int .i64 0]
  exact ⟨t1, t2, hb.below t3 hhi, t3⟩
theorem MdW.below {w : World} {hi : Nat} {x : Sd} {B : Option Addr} {m d : Nat} {W W' : World} (h : MdW w hi x B m d W) (hhi : hi ≤ w.heap.size) (hb : Below W.heap.size W W') : MdW w hi x B m d W' :=
  ⟨h.sd.below hb h.sd.lt, h.z.below hb h.z.lt, h.bs.below hb (by have := h.bel.size; omega), h.bel.trans (hb.mono h.bel.size)⟩
theorem blk97 {w : World} {g : Nat} {a b c : Value} (h : Blk w g 97 #[a, b, c]) : w.cell? ⟨g, 0, none⟩ = some a ∧ w.cell? ⟨g, 1, none⟩ = some b ∧ w.cell? ⟨g, 2, none⟩ = some c := ⟨h.cell 0, h.cell 1, h.cell 2⟩
section
set_option maxRecDepth 100000
set_option maxHeartbeats 1000000
theorem bringN (n : Int) (W : World) : Calls Tryz.prog 19 #[.int .i64 n, .int .i64 2147483649] W fun e w' => e = .returned (.int .i64 (brg n 2147483649 : Nat)) ∧ W = w' := bring_any n 2147483649 W (by omega) (by omega)
theorem bringK (k : Int) (W : World) (z : Int) (h : (brg k 6 : Nat) = z) : Calls Tryz.prog 19 #[.int .i64 k, .int .i64 6] W fun e w' => e = .returned (.int .i64 z) ∧ W = w' := by rw [← h]; exact bring_any k 6 W (by omega) (by omega)
/-- A sign. -/
theorem made_5 (x : Sd) (B : Option Addr) (m d hi : Nat) (w : World) (hb : Bs w 0 hi B m d x.b) (hhi : hi ≤ w.heap.size) (h : (brg x.k 6 : Int) = 5) :
    Calls Tryz.prog 50 #[.agg #[.int .i64 x.k, .int .i64 x.n, .slice B m d]] w (MadeP w ⟨4, 0, ⟨#[sgM.getD (brg x.n 2147483649 % 13) 0]⟩, 0⟩) := by
  have hM := MdW.start hb hhi
  have hn := brg_lt x.n 2147483649 (by omega)
  have c1 := fun W => bringN x.n W
  have c2 := fun W => bringK x.k W 5 h
  generalize brg x.n 2147483649 = N at *
  have C1 := Lib.hid c1
  have C2 := Lib.hid c2
  have HH := Lib.hid hhi
  have HM := Lib.hid hM
  have hr : (N : Int).tmod 13 = ((N % 13 : Nat) : Int) := rfl
  have hr1 : N % 13 < 13 := Nat.mod_lt _ (by omega)
  have he := sgn_ext (N % 13) hr1
  generalize N % 13 = r at *
  have w1 : IntKind.i64.wrap (r : Int) = (r : Int) := IntWalk.i64_in _ (by omega)
  have hr2 : (r : Int) + 1 ≤ 13 := by omega
  clear c1 c2 hb hhi h hM
  generalize (⟨#[sgM.getD r 0]⟩ : ByteArray) = T at *
  go_enter Tryz.func50, Tryz.ntmps50
  go_upto_region 1 with fail
  generalize (w.alloc (.cells #[.int .i64 x.k, .int .i64 x.n, .slice B m d] 97)).alloc (.cells #[.int .i64 0, .int .i64 0, .string ⟨#[]⟩, .int .i64 0] 33) = W0 at *
  obtain ⟨a0, a1, a2⟩ := blk97 HM.out.sd
  obtain ⟨z0, z1, z2, z3, y0, y1, y2, y3⟩ := blk33 HM.out.z
  go_wp2_with fail
  refine (C1.out _).mono ?_
  rintro e _ ⟨rfl, rfl⟩
  go_wp2_with fail
  refine (C2.out _).mono ?_
  rintro e _ ⟨rfl, rfl⟩
  go_wp2_with fail
  obtain ⟨f0, f1, f2, f3, _, _, _, _⟩ := blk33 (set4 HM.out.z (.int .i64 4) (.int .i64 0) (.string T) (.int .i64 0))
  refine bodyPost_ret (v := wiV ⟨4, 0, T, 0⟩) (by simp [results, Tryz.results50, go_sem, wiV, f0, f1, f2, f3]) rfl ⟨rfl, below_set4 HM.out.bel (by omega) _ _ _ _⟩
/-- A literal. -/
theorem made_4 (x : Sd) (B : Option Addr) (m d hi : Nat) (w : World) (hb : Bs w 0 hi B m d x.b) (hhi : hi ≤ w.heap.size) (h : (brg x.k 6 : Int) = 4) :
    Calls Tryz.prog 50 #[.agg #[.int .i64 x.k, .int .i64 x.n, .slice B m d]] w (MadeP w ⟨3, 0, ⟨(x.b.take 40).toArray⟩, 0⟩) := by
  have hM := MdW.start hb hhi
  have hn := brg_lt x.n 2147483649 (by omega)
  have c1 := fun W => bringN x.n W
  have c2 := fun W => bringK x.k W 4 h
  generalize brg x.n 2147483649 = N at *
  have C1 := Lib.hid c1
  have C2 := Lib.hid c2
  have HH := Lib.hid hhi
  have HM := Lib.hid hM
  obtain ⟨mm, hmm, hm1, hm2⟩ : ∃ mm : Nat, min (m : Int) 40 = (mm : Int) ∧ mm ≤ m ∧ mm = min m 40 := ⟨min m 40, by omega, by omega, rfl⟩
  have htk : x.b.take 40 = x.b.take mm := by
    rw [hm2]
    by_cases h4 : m ≤ 40
    · rw [Nat.min_eq_left h4, List.take_of_length_le (by rw [hb.len]; exact h4), List.take_of_length_le (by rw [hb.len]; exact Nat.le_refl _)]
    · rw [Nat.min_eq_right (by omega)]
  rw [htk]
  have hle := hb.le
  have hmd : (mm : Int) ≤ (d : Int) := by omega
  have hcv := fun W (hW : Bs W 0 hi B m d x.b) => (hW.pre hm1).convert (P := Tryz.prog) 42 5 9 Tryz.underlying42 Tryz.underlying5 Tryz.underlying9
  generalize (⟨(x.b.take mm).toArray⟩ : ByteArray) = T at *
  have HCV := Lib.hid hcv
  clear c1 c2 hb hhi h hM hcv htk hm2
  go_enter Tryz.func50, Tryz.ntmps50
  go_upto_region 1 with fail
  generalize (w.alloc (.cells #[.int .i64 x.k, .int .i64 x.n, .slice B m d] 97)).alloc (.cells #[.int .i64 0, .int .i64 0, .string ⟨#[]⟩, .int .i64 0] 33) = W0 at *
  have hcv0 := HCV.out _ HM.out.bs
  obtain ⟨a0, a1, a2⟩ := blk97 HM.out.sd
  obtain ⟨z0, z1, z2, z3, y0, y1, y2, y3⟩ := blk33 HM.out.z
  go_wp2_with fail
  refine (C1.out _).mono ?_
  rintro e _ ⟨rfl, rfl⟩
  go_wp2_with fail
  refine (C2.out _).mono ?_
  rintro e _ ⟨rfl, rfl⟩
  go_wp2_with fail
  obtain ⟨f0, f1, f2, f3, _, _, _, _⟩ := blk33 (set4 HM.out.z (.int .i64 3) (.int .i64 0) (.string T) (.int .i64 0))
  refine bodyPost_ret (v := wiV ⟨3, 0, T, 0⟩) (by simp [results, Tryz.results50, go_sem, wiV, f0, f1, f2, f3]) rfl ⟨rfl, below_set4 HM.out.bel (by omega) _ _ _ _⟩
/-- A number, of base 10. -/
theorem made_1 (x : Sd) (B : Option Addr) (m d hi : Nat) (w : World) (hb : Bs w 0 hi B m d x.b) (hhi : hi ≤ w.heap.size) (h : (brg x.k 6 : Int) = 1) :
    Calls Tryz.prog 50 #[.agg #[.int .i64 x.k, .int .i64 x.n, .slice B m d]] w (MadeP w ⟨2, 0, ⟨(dgL 10 11 (brg x.n 2147483649)).toArray⟩, (brg x.n 2147483649 : Nat)⟩) := by
  have hM := MdW.start hb hhi
  have hn := brg_lt x.n 2147483649 (by omega)
  have c1 := fun W => bringN x.n W
  have c2 := fun W => bringK x.k W 1 h
  generalize brg x.n 2147483649 = N at *
  have C1 := Lib.hid c1
  have C2 := Lib.hid c2
  have HH := Lib.hid hhi
  have HM := Lib.hid hM
  have hd := fun W => digits_any 10 (by omega) (by omega) 11 N W (by omega) (by omega) (by omega)
  have hl := (dgL_len 10 11 N).2
  have hl2 : (⟨(dgL 10 11 N).toArray⟩ : ByteArray).size ≤ 12 := hl
  generalize (⟨(dgL 10 11 N).toArray⟩ : ByteArray) = T at *
  have HD := Lib.hid hd
  clear c1 c2 hb hhi h hM hd hl
  go_enter Tryz.func50, Tryz.ntmps50
  go_upto_region 1 with fail
  generalize (w.alloc (.cells #[.int .i64 x.k, .int .i64 x.n, .slice B m d] 97)).alloc (.cells #[.int .i64 0, .int .i64 0, .string ⟨#[]⟩, .int .i64 0] 33) = W0 at *
  obtain ⟨a0, a1, a2⟩ := blk97 HM.out.sd
  obtain ⟨z0, z1, z2, z3, y0, y1, y2, y3⟩ := blk33 HM.out.z
  go_wp2_with fail
  refine (C1.out _).mono ?_
  rintro e _ ⟨rfl, rfl⟩
  go_wp2_with fail
  refine (C2.out _).mono ?_
  rintro e _ ⟨rfl, rfl⟩
  go_wp2_with fail
  refine (HD.out _).mono ?_
  rintro e _ ⟨rfl, q, rfl⟩
  have hz := HM.out.z.drewN q
  obtain ⟨x0, x1, x2, x3, v0, v1, v2, v3⟩ := blk33 hz
  have HZ := Lib.hid hz
  clear hz
  go_wp2_with fail
  obtain ⟨f0, f1, f2, f3, _, _, _, _⟩ := blk33 (set4 HZ.out (.int .i64 2) (.int .i64 0) (.string T) (.int .i64 N))
  refine bodyPost_ret (v := wiV ⟨2, 0, T, N⟩) (by simp [results, Tryz.results50, go_sem, wiV, f0, f1, f2, f3]) rfl ⟨rfl, below_set4 (Below.drewN_ HM.out.bel q) (by omega) _ _ _ _⟩
/-- A number, of base 8. -/
theorem made_2 (x : Sd) (B : Option Addr) (m d hi : Nat) (w : World) (hb : Bs w 0 hi B m d x.b) (hhi : hi ≤ w.heap.size) (h : (brg x.k 6 : Int) = 2) :
    Calls Tryz.prog 50 #[.agg #[.int .i64 x.k, .int .i64 x.n, .slice B m d]] w (MadeP w ⟨2, 0, ⟨(48 :: dgL 8 11 (brg x.n 2147483649)).toArray⟩, (brg x.n 2147483649 : Nat)⟩) := by
  have hM := MdW.start hb hhi
  have hn := brg_lt x.n 2147483649 (by omega)
  have c1 := fun W => bringN x.n W
  have c2 := fun W => bringK x.k W 2 h
  generalize brg x.n 2147483649 = N at *
  have C1 := Lib.hid c1
  have C2 := Lib.hid c2
  have HH := Lib.hid hhi
  have HM := Lib.hid hM
  have hd := fun W => digits_any 8 (by omega) (by omega) 11 N W (by omega) (by omega) (by omega)
  have hl := (dgL_len 8 11 N).2
  have hl2 : (⟨(dgL 8 11 N).toArray⟩ : ByteArray).size ≤ 12 := hl
  obtain ⟨T, ha, hT⟩ := str_add ⟨#[48]⟩ ⟨(dgL 8 11 N).toArray⟩ (by show 1 + (⟨(dgL 8 11 N).toArray⟩ : ByteArray).size ≤ _; omega)
  have hT2 : (⟨(48 :: dgL 8 11 N).toArray⟩ : ByteArray) = T := by apply bytes_injP; rw [hT]; rfl
  rw [hT2]
  clear hT hT2
  generalize (⟨(dgL 8 11 N).toArray⟩ : ByteArray) = T1 at *
  have HD := Lib.hid hd
  clear c1 c2 hb hhi h hM hd hl
  go_enter Tryz.func50, Tryz.ntmps50
  go_upto_region 1 with fail
  generalize (w.alloc (.cells #[.int .i64 x.k, .int .i64 x.n, .slice B m d] 97)).alloc (.cells #[.int .i64 0, .int .i64 0, .string ⟨#[]⟩, .int .i64 0] 33) = W0 at *
  obtain ⟨a0, a1, a2⟩ := blk97 HM.out.sd
  obtain ⟨z0, z1, z2, z3, y0, y1, y2, y3⟩ := blk33 HM.out.z
  go_wp2_with fail
  refine (C1.out _).mono ?_
  rintro e _ ⟨rfl, rfl⟩
  go_wp2_with fail
  refine (C2.out _).mono ?_
  rintro e _ ⟨rfl, rfl⟩
  go_wp2_with fail
  refine (HD.out _).mono ?_
  rintro e _ ⟨rfl, q, rfl⟩
  have hz := HM.out.z.drewN q
  obtain ⟨x0, x1, x2, x3, v0, v1, v2, v3⟩ := blk33 hz
  have HZ := Lib.hid hz
  clear hz
  go_wp2_with fail
  obtain ⟨f0, f1, f2, f3, _, _, _, _⟩ := blk33 (set4 HZ.out (.int .i64 2) (.int .i64 0) (.string T) (.int .i64 N))
  refine bodyPost_ret (v := wiV ⟨2, 0, T, N⟩) (by simp [results, Tryz.results50, go_sem, wiV, f0, f1, f2, f3]) rfl ⟨rfl, below_set4 (Below.drewN_ HM.out.bel q) (by omega) _ _ _ _⟩
/-- A number, of base 16. -/
theorem made_3 (x : Sd) (B : Option Addr) (m d hi : Nat) (w : World) (hb : Bs w 0 hi B m d x.b) (hhi : hi ≤ w.heap.size) (h : (brg x.k 6 : Int) = 3) :
    Calls Tryz.prog 50 #[.agg #[.int .i64 x.k, .int .i64 x.n, .slice B m d]] w (MadeP w ⟨2, 0, ⟨(48 :: 88 :: dgL 16 11 (brg x.n 2147483649)).toArray⟩, (brg x.n 2147483649 : Nat)⟩) := by
  have hM := MdW.start hb hhi
  have hn := brg_lt x.n 2147483649 (by omega)
  have c1 := fun W => bringN x.n W
  have c2 := fun W => bringK x.k W 3 h
  generalize brg x.n 2147483649 = N at *
  have C1 := Lib.hid c1
  have C2 := Lib.hid c2
  have HH := Lib.hid hhi
  have HM := Lib.hid hM
  have hd := fun W => digits_any 16 (by omega) (by omega) 11 N W (by omega) (by omega) (by omega)
  have hl := (dgL_len 16 11 N).2
  have hl2 : (⟨(dgL 16 11 N).toArray⟩ : ByteArray).size ≤ 12 := hl
  obtain ⟨T, ha, hT⟩ := str_add ⟨#[48, 88]⟩ ⟨(dgL 16 11 N).toArray⟩ (by show 2 + (⟨(dgL 16 11 N).toArray⟩ : ByteArray).size ≤ _; omega)
  have hT2 : (⟨(48 :: 88 :: dgL 16 11 N).toArray⟩ : ByteArray) = T := by apply bytes_injP; rw [hT]; rfl
  rw [hT2]
  clear hT hT2
  generalize (⟨(dgL 16 11 N).toArray⟩ : ByteArray) = T1 at *
  have HD := Lib.hid hd
  clear c1 c2 hb hhi h hM hd hl
  go_enter Tryz.func50, Tryz.ntmps50
  go_upto_region 1 with fail
  generalize (w.alloc (.cells #[.int .i64 x.k, .int .i64 x.n, .slice B m d] 97)).alloc (.cells #[.int .i64 0, .int .i64 0, .string ⟨#[]⟩, .int .i64 0] 33) = W0 at *
  obtain ⟨a0, a1, a2⟩ := blk97 HM.out.sd
  obtain ⟨z0, z1, z2, z3, y0, y1, y2, y3⟩ := blk33 HM.out.z
  go_wp2_with fail
  refine (C1.out _).mono ?_
  rintro e _ ⟨rfl, rfl⟩
  go_wp2_with fail
  refine (C2.out _).mono ?_
  rintro e _ ⟨rfl, rfl⟩
  go_wp2_with fail
  refine (HD.out _).mono ?_
  rintro e _ ⟨rfl, q, rfl⟩
  have hz := HM.out.z.drewN q
  obtain ⟨x0, x1, x2, x3, v0, v1, v2, v3⟩ := blk33 hz
  have HZ := Lib.hid hz
  clear hz
  go_wp2_with fail
  obtain ⟨f0, f1, f2, f3, _, _, _, _⟩ := blk33 (set4 HZ.out (.int .i64 2) (.int .i64 0) (.string T) (.int .i64 N))
  refine bodyPost_ret (v := wiV ⟨2, 0, T, N⟩) (by simp [results, Tryz.results50, go_sem, wiV, f0, f1, f2, f3]) rfl ⟨rfl, below_set4 (Below.drewN_ HM.out.bel q) (by omega) _ _ _ _⟩
end
end Go.Proofs.YtoineheocipmaaaGreatDoor
