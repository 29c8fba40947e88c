/-
  lex: the document's answer: the word at a place.
-/
import Derived.Test.YtoineheocipmaaaGreatDoorLexAg
import Derived.Test.YtoineheocipmaaaGreatDoorRUnq
namespace Go.Proofs.YtoineheocipmaaaGreatDoor
open Go.RowKit
set_option linter.unusedVariables false
set_option linter.unusedSimpArgs false

/-- What the document's answer says of the word at a place. -/
def RwP (w : World) (T : Tk) (p : Nat) (e : Ending) (w' : World) : Prop := ∃ (k q : Nat) (t : ByteArray) (n z : Int), e = .returned (.tuple #[wv k q t n, .int .i64 z, .int .i64 T.e]) ∧ Below w.heap.size w w' ∧ (T.e = 0 → k = T.k ∧ q = p ∧ t = T.t ∧ n = T.n ∧ z = ((p + T.z : Nat) : Int))
theorem runL_all : ∀ (l : List UInt8), ∀ x ∈ runL l, wdZ (x.toNat : Nat) = true
  | [], x, h => by simp [runL] at h
  | c :: r, x, h => by
    rw [runL_cons] at h
    split at h
    · rename_i hc
      rcases List.mem_cons.1 h with rfl | h
      · exact hc
      · exact runL_all r x h
    · simp at h
theorem ident_len {c : UInt8} {r : List UInt8} (h : ltZ (c.toNat : Nat) = true) : identL (runL (c :: r)) = decide ((runL (c :: r)).length ≤ 32) := by
  have hk : decide (ltZ (c.toNat : Nat) = true → dgZ (c.toNat : Nat) = false ∧ wdZ (c.toNat : Nat) = true) = true := fin8 (p := fun c => decide (ltZ (c.toNat : Nat) = true → dgZ (c.toNat : Nat) = false ∧ wdZ (c.toNat : Nat) = true)) (by decide +kernel) c
  obtain ⟨h1, h2⟩ := of_decide_eq_true hk h
  have hall : (runL (c :: r)).all (fun x => idZ x.toNat) = true := by
    rw [List.all_eq_true]
    intro x hx
    have hx2 := runL_all (c :: r) x hx
    have hk2 : (wdZ (x.toNat : Nat) == idZ (x.toNat : Nat)) = true := fin8 (p := fun x => wdZ (x.toNat : Nat) == idZ (x.toNat : Nat)) (by decide +kernel) x
    have : wdZ (x.toNat : Nat) = idZ (x.toNat : Nat) := by simpa using hk2
    rw [← this]; exact hx2
  unfold identL
  rw [hall]
  rw [runL_cons, h2, if_pos rfl]
  simp [h1]

theorem two33 (w : World) (a b : Array Value) : Blk ((w.alloc (.cells a 33)).alloc (.cells b 33)) w.heap.size 33 a ∧ Blk ((w.alloc (.cells a 33)).alloc (.cells b 33)) (w.heap.size + 1) 33 b ∧ Below w.heap.size w ((w.alloc (.cells a 33)).alloc (.cells b 33)) := by
  have h2 := Blk.new (w.alloc (.cells a 33)) 33 b
  rw [World.size_alloc] at h2
  exact ⟨Blk.alloc (Blk.new w 33 a) _, h2, ((Below.refl _ w).alloc (Nat.le_refl _) _).alloc (by simp) _⟩
section
set_option maxRecDepth 100000
set_option maxHeartbeats 1000000
theorem rw_ident (s : ByteArray) (p : Nat) (w : World) (hp : p < s.size) (hs : s.size ≤ 1000000) (hy : ltZ (s[p].toNat : Nat) = true) (L : Nat) (hL : L = (runL (s.data.toList.drop p)).length) :
    Calls Tryz.prog 47 #[.string s, .int .i64 p] w (RwP w (if L ≤ 32 then ⟨0, 1, s.extract p (p + L), 0, L⟩ else ⟨30, 0, ⟨#[]⟩, 0, 0⟩) p) := by
  have hp' : (p : Int) < (s.size : Int) := by omega
  have hrest := fun W => refRest_any s p W (by omega) hs
  have hrl := runL_len (s.data.toList.drop p)
  have hll : (s.data.toList.drop p).length = s.size - p := by simp
  have c1 := fun W => refLetter_any (s[p].toNat : Nat) W
  obtain ⟨R, hR⟩ : ∃ R, R = p + L := ⟨_, rfl⟩
  rw [← hL, ← hR] at hrest
  rw [← hL] at hrl
  rw [hy] at c1
  rw [← hR]
  have hpR : p ≤ R := by omega
  have hRs : R ≤ s.size := by omega
  have HR := Lib.hid hrest
  have C1 := Lib.hid c1
  have HRL := Lib.hid hR
  generalize hx : s[p] = c at *
  have e1 : IntKind.i64.wrap ((R : Int) - (p : Int)) = (L : Int) := by rw [show (R : Int) - (p : Int) = (L : Int) by omega]; exact IntWalk.i64_in _ (by omega)
  have hpR' : (p : Int) ≤ (R : Int) := by omega
  have hRs' : (R : Int) ≤ (s.size : Int) := by omega
  clear hrest c1 hL hy hR hrl hll
  by_cases h32 : L ≤ 32
  · have h32' : ¬ (32 : Int) < (L : Int) := by omega
    rw [if_pos h32]
    go_enter Tryz.func47, Tryz.ntmps47
    go_wp2_with fail
    refine (C1.out _).mono ?_
    rintro e _ ⟨rfl, rfl⟩
    go_wp2_with fail
    refine (HR.out _).mono ?_
    rintro e _ ⟨rfl, rfl⟩
    go_wp2_with fail
    refine bodyPost_ret (v := .tuple #[wv 1 p (s.extract p R) 0, .int .i64 R, .int .i64 0]) (by simp [results, Tryz.results47, go_sem, wv]) rfl ⟨1, p, _, 0, R, rfl, (two33 w _ _).2.2, fun _ => ⟨rfl, rfl, rfl, rfl, by rw [HRL.out]⟩⟩
  · have h32' : (32 : Int) < (L : Int) := by omega
    rw [if_neg h32]
    go_enter Tryz.func47, Tryz.ntmps47
    go_wp2_with fail
    refine (C1.out _).mono ?_
    rintro e _ ⟨rfl, rfl⟩
    go_wp2_with fail
    refine (HR.out _).mono ?_
    rintro e _ ⟨rfl, rfl⟩
    go_wp2_with fail
    refine bodyPost_ret (v := .tuple #[wv 0 p ⟨#[]⟩ 0, .int .i64 0, .int .i64 30]) (by simp [results, Tryz.results47, go_sem, wv]) rfl ⟨0, p, _, 0, 0, rfl, (two33 w _ _).2.2, fun h => by cases h⟩
theorem rw_sign (s : ByteArray) (p : Nat) (w : World) (hp : p < s.size) (hs : s.size ≤ 1000000) (h1 : ltZ (s[p].toNat : Nat) = false) (h2 : dgZ (s[p].toNat : Nat) = false) (h3 : s[p].toNat ≠ 34 ∧ s[p].toNat ≠ 39) :
    Calls Tryz.prog 47 #[.string s, .int .i64 p] w (RwP w (if sgB s[p] then ⟨0, 4, s.extract p (p + 1), 0, 1⟩ else ⟨30, 0, ⟨#[]⟩, 0, 0⟩) p) := by
  have hp' : (p : Int) < (s.size : Int) := by omega
  have hp2 : (p : Int) + 1 ≤ (s.size : Int) := by omega
  have c1 := fun W => refLetter_any (s[p].toNat : Nat) W
  have c2 := fun W => refDigit_any (s[p].toNat : Nat) W
  have c3 := fun W => refSign_any s[p] W
  rw [h1] at c1
  rw [h2] at c2
  generalize hx : s[p] = c at *
  have e1 : ((c.toNat : Int) == 34) = false := by simp only [beq_eq_false_iff_ne, ne_eq]; omega
  have e2 : ((c.toNat : Int) == 39) = false := by simp only [beq_eq_false_iff_ne, ne_eq]; omega
  have C1 := Lib.hid c1
  have C2 := Lib.hid c2
  clear c1 c2 h1 h2 h3
  cases hsg : sgB c
  · rw [hsg] at c3
    rw [if_neg (by simp)]
    have C3 := Lib.hid c3
    clear c3 hsg
    go_enter Tryz.func47, Tryz.ntmps47
    go_wp2_with fail
    refine (C1.out _).mono ?_
    rintro e _ ⟨rfl, rfl⟩
    go_wp2_with fail
    refine (C2.out _).mono ?_
    rintro e _ ⟨rfl, rfl⟩
    go_wp2_with fail
    refine (C3.out _).mono ?_
    rintro e _ ⟨rfl, rfl⟩
    go_wp2_with fail
    refine bodyPost_ret (v := .tuple #[wv 0 p ⟨#[]⟩ 0, .int .i64 0, .int .i64 30]) (by simp [results, Tryz.results47, go_sem, wv]) rfl ⟨0, p, _, 0, 0, rfl, (two33 w _ _).2.2, fun h => by cases h⟩
  · rw [hsg] at c3
    rw [if_pos rfl]
    have C3 := Lib.hid c3
    clear c3 hsg
    go_enter Tryz.func47, Tryz.ntmps47
    go_wp2_with fail
    refine (C1.out _).mono ?_
    rintro e _ ⟨rfl, rfl⟩
    go_wp2_with fail
    refine (C2.out _).mono ?_
    rintro e _ ⟨rfl, rfl⟩
    go_wp2_with fail
    refine (C3.out _).mono ?_
    rintro e _ ⟨rfl, rfl⟩
    go_wp2_with fail
    refine bodyPost_ret (v := .tuple #[wv 4 p (s.extract p (p + 1)) 0, .int .i64 ((p : Int) + 1), .int .i64 0]) (by simp [results, Tryz.results47, go_sem, wv]) rfl ⟨4, p, _, 0, _, rfl, (two33 w _ _).2.2, fun _ => ⟨rfl, rfl, rfl, rfl, by simp⟩⟩
theorem rw_num (s : ByteArray) (p : Nat) (w : World) (hp : p < s.size) (hs : s.size ≤ 1000000) (h1 : ltZ (s[p].toNat : Nat) = false) (h2 : dgZ (s[p].toNat : Nat) = true) (L : Nat) (hL : L = (runL (s.data.toList.drop p)).length) :
    Calls Tryz.prog 47 #[.string s, .int .i64 p] w (RwP w (if (vlR (s.extract p (p + L))).2 = 0 then ⟨0, 2, s.extract p (p + L), (vlR (s.extract p (p + L))).1, L⟩ else ⟨(vlR (s.extract p (p + L))).2, 0, ⟨#[]⟩, 0, 0⟩) p) := by
  have hp' : (p : Int) < (s.size : Int) := by omega
  have hrest := fun W => refRest_any s p W (by omega) hs
  have hrl := runL_len (s.data.toList.drop p)
  have hll : (s.data.toList.drop p).length = s.size - p := by simp
  have hpos := ext_pos (s := s) hp (show wdZ (s[p].toNat : Nat) = true by unfold wdZ; rw [h2]; simp)
  have c1 := fun W => refLetter_any (s[p].toNat : Nat) W
  have c2 := fun W => refDigit_any (s[p].toNat : Nat) W
  rw [h1] at c1
  rw [h2] at c2
  obtain ⟨R, hR⟩ : ∃ R, R = p + L := ⟨_, rfl⟩
  rw [← hL, ← hR] at hrest
  rw [← hL] at hrl hpos
  rw [← hR]
  have hpR : p ≤ R := by omega
  have hRs : R ≤ s.size := by omega
  obtain ⟨t, ht⟩ : ∃ t, s.extract p R = t := ⟨_, rfl⟩
  have hts : t.size = R - p := by rw [← ht]; simp [ByteArray.size_extract]; omega
  have hnum := fun W => refNum_any t W (by omega) (by omega)
  have hag := num_agree t
  rw [ht]
  obtain ⟨T, hT⟩ : ∃ T : Tk, T = (if (vlR t).2 = 0 then ⟨0, 2, t, (vlR t).1, L⟩ else ⟨(vlR t).2, 0, ⟨#[]⟩, 0, 0⟩) := ⟨_, rfl⟩
  rw [← hT]
  have HT := Lib.hid hT
  clear hT
  generalize rvR (ntB t) (ntD t).data.toList = n at *
  generalize vlR t = v at *
  have HN := Lib.hid hnum
  have HR := Lib.hid hrest
  have C1 := Lib.hid c1
  have C2 := Lib.hid c2
  have HRL := Lib.hid hR
  generalize hx : s[p] = c at *
  have hpR' : (p : Int) ≤ (R : Int) := by omega
  have hRs' : (R : Int) ≤ (s.size : Int) := by omega
  have hz := two33 w #[.int .i64 0, .int .i64 0, .string ⟨#[]⟩, .int .i64 0] #[.int .i64 0, .int .i64 p, .string ⟨#[]⟩, .int .i64 0]
  have HZ := Lib.hid hz
  clear hrest c1 c2 hL h1 h2 hR hrl hll hpos hts hnum hz
  go_enter Tryz.func47, Tryz.ntmps47
  go_wp2_with fail
  refine (C1.out _).mono ?_
  rintro e _ ⟨rfl, rfl⟩
  go_wp2_with fail
  refine (C2.out _).mono ?_
  rintro e _ ⟨rfl, rfl⟩
  go_wp2_with fail
  refine (HR.out _).mono ?_
  rintro e _ ⟨rfl, rfl⟩
  go_wp2_with fail
  refine (HN.out _).mono ?_
  rintro e w2 ⟨rfl, hb2⟩
  have hz0 : Blk w2 w.heap.size 33 #[.int .i64 0, .int .i64 0, .string ⟨#[]⟩, .int .i64 0] := HZ.out.1.below hb2 (by first | (simp; done) | (simp; omega))
  have hz1 : Blk w2 (w.heap.size + 1) 33 #[.int .i64 0, .int .i64 p, .string ⟨#[]⟩, .int .i64 0] := HZ.out.2.1.below hb2 (by first | (simp; done) | (simp; omega))
  have HB2 := Lib.hid (HZ.out.2.2.trans (hb2.mono (by first | (simp; done) | (simp; omega))))
  have HZ0 := Lib.hid hz0
  have HZ1 := Lib.hid hz1
  obtain ⟨a0, a1, a2, a3, y0, y1, y2, y3⟩ := blk33 hz0
  obtain ⟨b0, b1, b2, b3, x0, x1, x2, x3⟩ := blk33 hz1
  clear hb2 hz0 hz1 HZ
  have hT := HT.out
  clear HT
  rcases hag with ⟨q1, rfl⟩ | ⟨q1, rfl⟩ | ⟨q1, q2, rfl⟩
  · rw [if_neg (by simp)] at hT
    subst hT
    go_wp2_with fail
    obtain ⟨f0, f1, f2, f3, _, _, _, _⟩ := blk33 (set4 HZ0.out (.int .i64 0) (.int .i64 p) (.string ⟨#[]⟩) (.int .i64 0))
    refine bodyPost_ret (v := .tuple #[wv 0 p ⟨#[]⟩ 0, .int .i64 0, .int .i64 30]) (by simp [results, Tryz.results47, go_sem, wv, f0, f1, f2, f3]) rfl ⟨0, p, _, 0, 0, rfl, below_set4 HB2.out (Nat.le_refl _) _ _ _ _, fun h => by cases h⟩
  · rw [if_neg (by simp)] at hT
    subst hT
    have q2 : ¬ n < 0 := by omega
    go_wp2_with fail
    obtain ⟨f0, f1, f2, f3, _, _, _, _⟩ := blk33 (set4 HZ0.out (.int .i64 0) (.int .i64 p) (.string ⟨#[]⟩) (.int .i64 0))
    refine bodyPost_ret (v := .tuple #[wv 0 p ⟨#[]⟩ 0, .int .i64 0, .int .i64 9]) (by simp [results, Tryz.results47, go_sem, wv, f0, f1, f2, f3]) rfl ⟨0, p, _, 0, 0, rfl, below_set4 HB2.out (Nat.le_refl _) _ _ _ _, fun h => by cases h⟩
  · rw [if_pos rfl] at hT
    subst hT
    have q3 : ¬ n < 0 := by omega
    have q4 : ¬ 2147483648 < n := by omega
    go_wp2_with fail
    obtain ⟨f0, f1, f2, f3, _, _, _, _⟩ := blk33 (set4 (((HZ0.out.far (p := ⟨w.heap.size + 1, 0, none⟩) (by simp) (.int .i64 2)).far (p := ⟨w.heap.size + 1, 2, none⟩) (by simp) (.string t)).far (p := ⟨w.heap.size + 1, 3, none⟩) (by simp) (.int .i64 n)) (.int .i64 2) (.int .i64 p) (.string t) (.int .i64 n))
    refine bodyPost_ret (v := .tuple #[wv 2 p t n, .int .i64 R, .int .i64 0]) (by simp [results, Tryz.results47, go_sem, wv, f0, f1, f2, f3]) rfl ⟨2, p, _, n, R, rfl, ?_, fun _ => ⟨rfl, rfl, rfl, rfl, by rw [HRL.out]⟩⟩
    exact below_set4 (((HB2.out.setCell (by simp) _).setCell (by simp) _).setCell (by simp) _) (Nat.le_refl _) _ _ _ _
theorem rw_lit (s : ByteArray) (p : Nat) (w : World) (hp : p < s.size) (hs : s.size ≤ 1000000) (h1 : ltZ (s[p].toNat : Nat) = false) (h2 : dgZ (s[p].toNat : Nat) = false) (h3 : s[p].toNat = 34 ∨ s[p].toNat = 39) (N : Nat) (hN : N = liL (s.data.toList.drop p)) :
    Calls Tryz.prog 47 #[.string s, .int .i64 p] w (RwP w (if N = 0 then ⟨21, 0, ⟨#[]⟩, 0, 0⟩ else match unqL ((s.data.toList.drop p).take N) with | none => ⟨21, 0, ⟨#[]⟩, 0, 0⟩ | some v => ⟨0, 3, ⟨v.toArray⟩, 0, N⟩) p) := by
  have hp' : (p : Int) < (s.size : Int) := by omega
  have hd := drop_at s p hp
  have hlit := fun W => refLit_any s p W hp hs
  have hag := lit_agree s[p] (s.data.toList.drop (p + 1))
  rw [← hd, ← hN] at hag
  rw [lrP_at] at hlit
  have hNl : N = 0 ∨ (2 ≤ N ∧ p + N ≤ s.size) := by
    rw [hN, hd]
    have h4 : (s.data.toList.drop (p + 1)).length = s.size - (p + 1) := by simp
    rcases liF_le s[p] (s.data.toList.drop (p + 1)).length 1 (s.data.toList.drop (p + 1)) with h | ⟨h5, h6⟩
    · exact .inl h
    · right
      show 2 ≤ liF _ _ _ _ ∧ p + liF _ _ _ _ ≤ _
      omega
  have c1 := fun W => refLetter_any (s[p].toNat : Nat) W
  have c2 := fun W => refDigit_any (s[p].toNat : Nat) W
  rw [h1] at c1
  rw [h2] at c2
  obtain ⟨T, hT⟩ : ∃ T : Tk, T = (if N = 0 then ⟨21, 0, ⟨#[]⟩, 0, 0⟩ else match unqL ((s.data.toList.drop p).take N) with | none => ⟨21, 0, ⟨#[]⟩, 0, 0⟩ | some v => ⟨0, 3, ⟨v.toArray⟩, 0, N⟩) := ⟨_, rfl⟩
  rw [← hT]
  have C1 := Lib.hid c1
  have C2 := Lib.hid c2
  generalize hM : lrP s[p] 1 (s.data.toList.drop (p + 1)) = M at *
  generalize hx : s[p] = c at *
  have hz := two33 w #[.int .i64 0, .int .i64 0, .string ⟨#[]⟩, .int .i64 0] #[.int .i64 0, .int .i64 p, .string ⟨#[]⟩, .int .i64 0]
  have HZ := Lib.hid hz
  have hcs : ((c.toNat : Int) == 34) = true ∨ (((c.toNat : Int) == 34) = false ∧ ((c.toNat : Int) == 39) = true) := by
    rcases h3 with h | h
    · left; simp; omega
    · right; constructor <;> (simp; omega)
  by_cases hM0 : M = 0
  · rw [if_pos hM0] at hlit
    have hT2 : T = ⟨21, 0, ⟨#[]⟩, 0, 0⟩ := by
      rw [hT]
      rcases hag with h | ⟨_, h | h⟩
      · rw [if_pos (by omega)]
      · rw [if_pos h]
      · by_cases h0 : N = 0
        · rw [if_pos h0]
        · rw [if_neg h0, h]
    subst hT2
    have HL := Lib.hid hlit
    clear c1 c2 hN h1 h2 h3 hz hlit hag hT hd hNl hM hM0
    go_enter Tryz.func47, Tryz.ntmps47
    go_wp2_with fail
    refine (C1.out _).mono ?_
    rintro e _ ⟨rfl, rfl⟩
    go_wp2_with fail
    refine (C2.out _).mono ?_
    rintro e _ ⟨rfl, rfl⟩
    rcases hcs with d | ⟨d, d'⟩
    all_goals
      go_wp2_with fail
      refine (HL.out _).mono ?_
      rintro e w2 ⟨rfl, hb2⟩
      have hz0 : Blk w2 w.heap.size 33 #[.int .i64 0, .int .i64 0, .string ⟨#[]⟩, .int .i64 0] := HZ.out.1.below hb2 (by first | (simp; done) | (simp; omega))
      have hz1 : Blk w2 (w.heap.size + 1) 33 #[.int .i64 0, .int .i64 p, .string ⟨#[]⟩, .int .i64 0] := HZ.out.2.1.below hb2 (by first | (simp; done) | (simp; omega))
      have HB2 := Lib.hid (HZ.out.2.2.trans (hb2.mono (by first | (simp; done) | (simp; omega))))
      have HZ0 := Lib.hid hz0
      have HZ1 := Lib.hid hz1
      obtain ⟨a0, a1, a2, a3, y0, y1, y2, y3⟩ := blk33 hz0
      obtain ⟨b0, b1, b2, b3, x0, x1, x2, x3⟩ := blk33 hz1
      clear hb2 hz0 hz1
      unfold lrA
      go_wp2_with fail
      obtain ⟨f0, f1, f2, f3, _, _, _, _⟩ := blk33 (set4 HZ0.out (.int .i64 0) (.int .i64 p) (.string ⟨#[]⟩) (.int .i64 0))
      refine bodyPost_ret (v := .tuple #[wv 0 p ⟨#[]⟩ 0, .int .i64 0, .int .i64 21]) (by simp [results, Tryz.results47, go_sem, wv, f0, f1, f2, f3]) rfl ⟨0, p, _, 0, 0, rfl, below_set4 HB2.out (Nat.le_refl _) _ _ _ _, fun h => by cases h⟩
  · rw [if_neg hM0] at hlit
    have hMN : M = N := by
      rcases hag with h | ⟨h, _⟩
      · exact h
      · exact absurd h hM0
    subst hMN
    obtain ⟨n1, n2⟩ : 2 ≤ M ∧ p + M ≤ s.size := by
      rcases hNl with h | h
      · exact absurd h hM0
      · exact h
    rw [if_neg hM0] at hT
    obtain ⟨R, hR⟩ : ∃ R, R = M + p := ⟨_, rfl⟩
    rw [← hR] at hlit
    have hpR' : (p : Int) ≤ (R : Int) := by omega
    have hRs' : (R : Int) ≤ (s.size : Int) := by omega
    have hR0 : decide (R ≠ 0) = true := by simp; omega
    obtain ⟨t, ht⟩ : ∃ t, s.extract p R = t := ⟨_, rfl⟩
    have htl : t.data.toList = (s.data.toList.drop p).take M := by rw [← ht, extract_mid]; congr 1; omega
    have hts : t.size ≤ 1000000 := by rw [← ht]; simp [ByteArray.size_extract]; omega
    have hun := fun W => runquote_any t W hts
    rw [htl] at hun
    generalize unqL ((s.data.toList.drop p).take M) = U at *
    have HUN := Lib.hid hun
    have HL := Lib.hid hlit
    have HT := Lib.hid hT
    have HRL := Lib.hid hR
    clear c1 c2 hN h1 h2 h3 hz hlit hag hT hd hNl hM hM0 hun htl hR
    go_enter Tryz.func47, Tryz.ntmps47
    go_wp2_with fail
    refine (C1.out _).mono ?_
    rintro e _ ⟨rfl, rfl⟩
    go_wp2_with fail
    refine (C2.out _).mono ?_
    rintro e _ ⟨rfl, rfl⟩
    rcases hcs with d | ⟨d, d'⟩
    all_goals
      go_wp2_with fail
      refine (HL.out _).mono ?_
      rintro e w2 ⟨rfl, hb2⟩
      have hz0 : Blk w2 w.heap.size 33 #[.int .i64 0, .int .i64 0, .string ⟨#[]⟩, .int .i64 0] := HZ.out.1.below hb2 (by first | (simp; done) | (simp; omega))
      have hz1 : Blk w2 (w.heap.size + 1) 33 #[.int .i64 0, .int .i64 p, .string ⟨#[]⟩, .int .i64 0] := HZ.out.2.1.below hb2 (by first | (simp; done) | (simp; omega))
      have HB2 := Lib.hid (HZ.out.2.2.trans (hb2.mono (by first | (simp; done) | (simp; omega))))
      have HZ0 := Lib.hid hz0
      have HZ1 := Lib.hid hz1
      unfold lrA
      rw [hR0]
      clear hb2 hz0 hz1
      go_wp2_with fail
      refine (HUN.out _).mono ?_
      rintro e w3 ⟨v3, rfl, ho3, hb3⟩
      have HLT := Lib.hid (show w.heap.size + 1 < w2.heap.size from HZ1.out.lt)
      have hz0 := HZ0.out.below hb3 HZ0.out.lt
      have hz1 := HZ1.out.below hb3 HZ1.out.lt
      have HB3 := Lib.hid (HB2.out.trans (hb3.mono HB2.out.size))
      have HY0 := Lib.hid hz0
      have HY1 := Lib.hid hz1
      obtain ⟨a0, a1, a2, a3, y0, y1, y2, y3⟩ := blk33 hz0
      obtain ⟨b0, b1, b2, b3, x0, x1, x2, x3⟩ := blk33 hz1
      have hT := HT.out
      clear hb3 hz0 hz1 HT HB2 HZ0 HZ1 HZ
      cases U with
      | none =>
        simp only at hT
        subst hT
        obtain ⟨A3, c3, rfl, _⟩ := ho3.bs
        clear ho3
        unfold ansR
        go_wp2_with fail
        obtain ⟨f0, f1, f2, f3, _, _, _, _⟩ := blk33 (set4 HY0.out (.int .i64 0) (.int .i64 p) (.string ⟨#[]⟩) (.int .i64 0))
        refine bodyPost_ret (v := .tuple #[wv 0 p ⟨#[]⟩ 0, .int .i64 0, .int .i64 21]) (by simp [results, Tryz.results47, go_sem, wv, f0, f1, f2, f3]) rfl ⟨0, p, _, 0, 0, rfl, below_set4 HB3.out (Nat.le_refl _) _ _ _ _, fun h => by cases h⟩
      | some v =>
        simp only at hT
        subst hT
        obtain ⟨A3, c3, rfl, hB3⟩ := ho3.bs
        have hw2 : w.heap.size + 1 < w2.heap.size := HLT.out
        have hcv3 : (convert 42 9 (.slice A3 v.length c3)).run Tryz.prog (w3.setCell ⟨w.heap.size + 1, 0, none⟩ (.int .i64 3)) = .ok (.string ⟨v.toArray⟩) (w3.setCell ⟨w.heap.size + 1, 0, none⟩ (.int .i64 3)) :=
          (hB3.setCell (p := ⟨w.heap.size + 1, 0, none⟩) (.inl hw2) _).convert (P := Tryz.prog) 42 5 9 Tryz.underlying42 Tryz.underlying5 Tryz.underlying9
        generalize (⟨v.toArray⟩ : ByteArray) = vb at *
        clear ho3 hB3
        unfold ansR
        go_wp2_with fail
        obtain ⟨f0, f1, f2, f3, _, _, _, _⟩ := blk33 (set4 ((HY0.out.far (p := ⟨w.heap.size + 1, 0, none⟩) (by simp) (.int .i64 3)).far (p := ⟨w.heap.size + 1, 2, none⟩) (by simp) (.string vb)) (.int .i64 3) (.int .i64 p) (.string vb) (.int .i64 0))
        refine bodyPost_ret (v := .tuple #[wv 3 p vb 0, .int .i64 R, .int .i64 0]) (by simp [results, Tryz.results47, go_sem, wv, f0, f1, f2, f3]) rfl ⟨3, p, _, 0, R, rfl, ?_, fun _ => ⟨rfl, rfl, rfl, rfl, by rw [HRL.out, Nat.add_comm]⟩⟩
        exact below_set4 ((HB3.out.setCell (by simp) _).setCell (by simp) _) (Nat.le_refl _) _ _ _ _
end
theorem refWord_any (s : ByteArray) (p : Nat) (w : World) (hp : p < s.size) (hs : s.size ≤ 1000000) : Calls Tryz.prog 47 #[.string s, .int .i64 p] w (RwP w (tkR s p s[p]) p) := by
  have hcl := cl_apart s[p]
  unfold tkR
  simp only
  by_cases h0 : clN s[p] = 0
  · rw [if_pos h0]
    have hy : ltZ (s[p].toNat : Nat) = true := by have := hcl.1; rw [h0] at this; simpa using this
    have hil := ident_len (c := s[p]) (r := s.data.toList.drop (p + 1)) hy
    rw [← drop_at s p hp] at hil
    have := rw_ident s p w hp hs hy _ rfl
    rw [hil]
    simpa using this
  · rw [if_neg h0]
    have hy : ltZ (s[p].toNat : Nat) = false := by have := hcl.1; rw [decide_eq_false h0] at this; simpa using this
    by_cases h1 : clN s[p] = 1
    · rw [if_pos h1]
      exact rw_num s p w hp hs hy (by have := hcl.2.1; rw [h1] at this; simpa using this) _ rfl
    · rw [if_neg h1]
      have hz : dgZ (s[p].toNat : Nat) = false := by have := hcl.2.1; rw [decide_eq_false h1] at this; simpa using this
      by_cases h2 : clN s[p] = 2
      · rw [if_pos h2]
        have hq : quB s[p] = true := by have := hcl.2.2.1; rw [h2] at this; simpa using this
        refine rw_lit s p w hp hs hy hz ?_ _ rfl
        unfold quB at hq
        simp only [Bool.or_eq_true, beq_iff_eq] at hq
        rcases hq with h | h <;> rw [h] <;> simp
      · rw [if_neg h2]
        have hq : quB s[p] = false := by have := hcl.2.2.1; rw [decide_eq_false h2] at this; simpa using this
        have hsg := hcl.2.2.2
        have := rw_sign s p w hp hs hy hz (by
          unfold quB at hq
          simp only [Bool.or_eq_false_iff, beq_eq_false_iff_ne, ne_eq] at hq
          exact ⟨fun h => hq.1 (UInt8.toNat_inj.1 h), fun h => hq.2 (UInt8.toNat_inj.1 h)⟩)
        by_cases h3 : clN s[p] = 3
        · rw [if_pos h3]
          rw [h3] at hsg
          have hs3 : sgB s[p] = true := by simpa using hsg
          rw [if_pos hs3] at this
          exact this
        · rw [if_neg h3]
          rw [decide_eq_false h3] at hsg
          have hs3 : sgB s[p] = false := by simpa using hsg
          rw [if_neg (by simp [hs3])] at this
          exact this
end Go.Proofs.YtoineheocipmaaaGreatDoor
