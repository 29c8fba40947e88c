/-
  lex: the word of a seed: identifiers; all.
-/
import Derived.Test.YtoineheocipmaaaGreatDoorLexMd
namespace Go.Proofs.YtoineheocipmaaaGreatDoor
open Go.RowKit
set_option linter.unusedVariables false
set_option linter.unusedSimpArgs false

theorem idT_snoc (b : List UInt8) (c : UInt8) : idT (b ++ [c]) = idT b ++ [idC c] := by simp [idT]
theorem idM_fin : ∀ m : Fin 10, ((⟨#[97, 98, 99, 88, 89, 90, 95, 48, 49, 57]⟩ : ByteArray)[m.val]'m.isLt) = idM.getD m.val 0 := by decide +kernel
theorem idM_get (n : Nat) (h : n < 10) : ((⟨#[97, 98, 99, 88, 89, 90, 95, 48, 49, 57]⟩ : ByteArray)[n]'(by show _ < 10; omega)) = idM.getD n 0 := idM_fin ⟨n, h⟩
set_option maxRecDepth 100000 in
set_option maxHeartbeats 1000000 in
/-- An identifier. -/
theorem made_0 (x : Sd) (B : Option Addr) (m d hi : Nat) (w : World) (hb : Bs w 0 hi B m d x.b) (hhi : hi ≤ w.heap.size) (h : (brg x.k 6 : Int) = 0) :
    Calls Tryz.prog 50 #[.agg #[.int .i64 x.k, .int .i64 x.n, .slice B m d]] w (MadeP w ⟨1, 0, ⟨(idT (x.b.take 31)).toArray⟩, 0⟩) := by
  have hM := MdW.start hb hhi
  have hn := brg_lt x.n 2147483649 (by omega)
  have c1 := fun W => bringN x.n W
  have c2 := fun W => bringK x.k W 0 h
  generalize brg x.n 2147483649 = N at *
  have C1 := Lib.hid c1
  have C2 := Lib.hid c2
  have HH := Lib.hid hhi
  have HM := Lib.hid hM
  have hbl := hb.len
  clear c1 c2 hb hhi h hM
  go_enter Tryz.func50, Tryz.ntmps50
  go_upto_region 1 with fail
  generalize (w.alloc (.cells #[.int .i64 x.k, .int .i64 x.n, .slice B m d] 97)).alloc (.cells #[.int .i64 0, .int .i64 0, .string ⟨#[]⟩, .int .i64 0] 33) = W0 at *
  obtain ⟨a0, a1, a2⟩ := blk97 HM.out.sd
  go_wp2_with fail
  refine (C1.out _).mono ?_
  rintro e _ ⟨rfl, rfl⟩
  go_wp2_with fail
  refine (C2.out _).mono ?_
  rintro e _ ⟨rfl, rfl⟩
  clear a0 a1 a2
  go_wp2_with fail
  go_loopg [4, 5] m (fun g v4 v5 wr => ∃ (i : Nat) (nb : ByteArray), i ≤ m ∧ i ≤ 31 ∧ g = m - i ∧ v4 = .string nb ∧ v5 = .int .i64 i ∧ nb.data.toList = idT (x.b.take i) ∧ MdW w hi x B m d wr)
  case atStart => exact ⟨0, ⟨#[95]⟩, by omega, by omega, rfl, rfl, rfl, rfl, HM.out⟩
  case round =>
    obtain ⟨i, nb, hi1, hi31, rfl, rfl, rfl, hnb, hm⟩ := hrel
    have HR := Lib.hid hm
    have HNB := Lib.hid hnb
    obtain ⟨a0, a1, a2⟩ := blk97 hm.sd
    have hnl : nb.size ≤ 40 := by
      have h1 : nb.data.toList.length = nb.size := by simp
      rw [← h1, hnb]; simp [idT]; omega
    clear hm hnb
    by_cases hil : i < m ∧ i < 31
    · obtain ⟨hil, hi2⟩ := hil
      obtain ⟨b0, o0, rfl, _, _, hcl⟩ := HR.out.bs.at_ (by omega)
      have hq := hcl i (by omega)
      have hil' : (i : Int) < (m : Int) := by omega
      have hi2' : (i : Int) < 31 := by omega
      have htk : x.b.take (i + 1) = x.b.take i ++ [x.b[i]] := List.take_succ_eq_append_getElem (by omega)
      have hcl8 := x.b[i].toNat_lt
      generalize hx : x.b[i] = c at *
      have hget := idM_get (c.toNat % 10) (by omega)
      have hz : ((⟨#[97, 98, 99, 88, 89, 90, 95, 48, 49, 57]⟩ : ByteArray)[c.toNat % 10]'(by show _ < 10; omega)).toNat = (idC c).toNat := by rw [hget]; rfl
      have hsn : idT (x.b.take (i + 1)) = idT (x.b.take i) ++ [idC c] := by rw [htk, idT_snoc]
      have hy1 := (idC c).toNat_lt
      generalize hkc : idC c = y at *
      have hy : (UInt8.ofNat ((y.toNat : Nat) : Int).toNat) = y := by simp
      obtain ⟨n2, a5, l2⟩ := str_add nb ⟨#[y]⟩ (by show nb.size + 1 ≤ _; omega)
      have hcv := fun W => conv_one (y.toNat : Nat) (by omega) (by omega) W
      rw [hy] at hcv
      have q0 : (0 : Int) ≤ (c.toNat : Int) % 10 := by omega
      have q1 : (c.toNat : Int) % 10 < 10 := by omega
      have q2 : ((c.toNat : Int) % 10).toNat = c.toNat % 10 := by omega
      have HF1 := Lib.hid (show n2.data.toList = idT (x.b.take (i + 1)) by rw [l2, HNB.out, hsn])
      have HF := Lib.hid (show ∀ o : Obj, MdW w hi x (some ⟨b0, o0, none⟩) m d (wr.alloc o) from fun o => HR.out.below HH.out ((Below.refl _ _).alloc (Nat.le_refl _) o))
      clear hcl htk hget hsn hkc l2 hy hx
      go_wp2_with fail
      go_roundg (m - (i + 1))
      case measure => omega
      case rel => exact ⟨i + 1, n2, by omega, by omega, rfl, rfl, by go_num, HF1.out, HF.out _⟩
    · have hil' : ¬ (i : Int) < (m : Int) ∨ ((i : Int) < (m : Int) ∧ ¬ (i : Int) < 31) := by omega
      have htk : x.b.take 31 = x.b.take i := by
        rcases Nat.lt_or_ge i 31 with h | h
        · rw [List.take_of_length_le (by omega), List.take_of_length_le (by omega)]
        · rw [show i = 31 by omega]
      have HT := Lib.hid (show nb = ⟨(idT (x.b.take 31)).toArray⟩ by apply bytes_injP; rw [HNB.out, htk])
      clear htk hil
      obtain ⟨z0, z1, z2, z3, y0, y1, y2, y3⟩ := blk33 HR.out.z
      rcases hil' with hq | ⟨hq, hq2⟩
      all_goals
        go_wp2_with fail
        obtain ⟨f0, f1, f2, f3, _, _, _, _⟩ := blk33 (set4 HR.out.z (.int .i64 1) (.int .i64 0) (.string nb) (.int .i64 0))
        refine bodyPost_ret (v := wiV ⟨1, 0, nb, 0⟩) (by simp [results, Tryz.results50, go_sem, wiV, f0, f1, f2, f3]) rfl ⟨by rw [← HT.out], below_set4 HR.out.bel (by omega) _ _ _ _⟩
theorem made_any (x : Sd) (B : Option Addr) (m d hi : Nat) (w : World) (hb : Bs w 0 hi B m d x.b) (hhi : hi ≤ w.heap.size) :
    Calls Tryz.prog 50 #[.agg #[.int .i64 x.k, .int .i64 x.n, .slice B m d]] w (MadeP w (madeS x)) := by
  have hlt := brg_lt x.k 6 (by omega)
  unfold madeS madeW
  by_cases h0 : brg x.k 6 = 0
  · rw [if_pos h0]; exact made_0 x B m d hi w hb hhi (by omega)
  rw [if_neg h0]
  by_cases h1 : brg x.k 6 = 1
  · rw [if_pos h1]; exact made_1 x B m d hi w hb hhi (by omega)
  rw [if_neg h1]
  by_cases h2 : brg x.k 6 = 2
  · rw [if_pos h2]; exact made_2 x B m d hi w hb hhi (by omega)
  rw [if_neg h2]
  by_cases h3 : brg x.k 6 = 3
  · rw [if_pos h3]; exact made_3 x B m d hi w hb hhi (by omega)
  rw [if_neg h3]
  by_cases h4 : brg x.k 6 = 4
  · rw [if_pos h4]; exact made_4 x B m d hi w hb hhi (by omega)
  rw [if_neg h4]
  exact made_5 x B m d hi w hb hhi (by omega)
end Go.Proofs.YtoineheocipmaaaGreatDoor
