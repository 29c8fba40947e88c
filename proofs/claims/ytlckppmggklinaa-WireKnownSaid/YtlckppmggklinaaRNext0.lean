/-
  The document's answer: Next, of numbers in varints.
-/
import Derived.Test.YtlckppmggklinaaRNext
namespace Go.Proofs.Ytlckppmggklinaa
open Go.RowKit
set_option linter.unusedVariables false
attribute [local go_sem ↓] Go.wp_at_zero Go.wp_at_succ

set_option maxRecDepth 100000 in
set_option maxHeartbeats 2000000 in
theorem rnext_0 {w : World} {lo hi n c m k e2 m2 k2 : Nat} {A : Option Addr} {l : List UInt8} (hB : Bs w lo hi A n c l) (hhi : hi ≤ w.heap.size) (hn : n ≤ 2147483648) (hr : rv l 0 0 = (0, m, k)) (h1 : 1 ≤ m / 8) (h2 : m / 8 ≤ 536870911)
    (h3 : m % 8 = 0) (hr2 : rv (l.drop k) 0 0 = (e2, m2, k2)) :
    Calls Try.prog 32 #[.slice A n c] w (NextP w (nxR l)) := by
  have hbr : bdR (m % 8) (l.drop k) = (e2, m2, [], k2) := by unfold bdR; rw [if_pos h3, hr2]
  have hl := hB.len
  have hbd := rv_bound l 0 0 (by omega) (by decide)
  rw [hr] at hbd
  have hkb := hbd.2 rfl
  have hm64 := hbd.1
  simp only at hm64 hkb
  have hbd2 := rv_bound (l.drop k) 0 0 (by omega) (by decide)
  rw [hr2] at hbd2
  have hnx0 : e2 ≠ 0 → nxR l = (e2, .zero, 0) := fun he => by
    unfold nxR; rw [hr]; simp only; rw [if_neg (by simp), if_neg (by omega), hbr]; simp only; rw [if_pos he]
  have hnx1 : e2 = 0 → nxR l = (0, ⟨(m : Int) / 8, 0, m2, [], l.take (k + k2)⟩, k + k2) := fun he => by
    unfold nxR; rw [hr]; simp only; rw [if_neg (by simp), if_neg (by omega), hbr]; simp only; rw [if_neg (by simpa using he), h3]; rfl
  have HN := num_of hB hhi (Nat.zero_le _) hn 0 m k (by rw [List.drop_zero]; exact hr)
  rw [show endOf 0 (0, m, k) = k by simp [endOf]] at HN
  have HN2 := num_of hB hhi (show k ≤ n by omega) hn e2 m2 k2 hr2
  have g2 : ¬ (m : Int) / 8 < 1 := by omega
  have g3 : ¬ (536870911 : Int) < (m : Int) / 8 := by omega
  have g4 : (m : Int) % 8 = 0 := by omega
  by_cases he : e2 = 0
  · subst he
    have hkb2 := hbd2.2 rfl
    simp only [List.length_drop] at hkb2
    have HX := Lib.hid (hnx1 rfl)
    rw [show endOf k (0, m2, k2) = k + k2 by simp [endOf]] at HN2
    have HBs := Lib.hid (fun (W : World) (h : Below w.heap.size w W) => (hB.below h hhi).pre (k := k + k2) (by omega))
    have hbnd := hbd2.1
    simp only at hbnd
    have hcap := hB.le
    have i1 : (0 : Int) ≤ ((k + k2 : Nat) : Int) := by omega
    have i2 : ((k + k2 : Nat) : Int) ≤ (c : Int) := by omega
    have i3 : ((k + k2 : Nat) : Int) ≤ (n : Int) := by omega
    obtain ⟨K, hK⟩ : ∃ K, K = k + k2 := ⟨_, rfl⟩
    simp only [← hK] at HN2 HX HBs i1 i2 i3 hkb2
    have HKK := Lib.hid hK
    clear hnx0 hnx1 hr hr2 hbr hbd hbd2 hB h3 hK
    go_enter Try.func32, Try.ntmps32
    go_wp2_with fail
    refine (HN.out _ ((Below.refl _ _).alloc (Nat.le_refl _) _)).mono ?_
    rintro x _ ⟨rfl, rfl⟩
    go_wp2_with fail
    refine (HN2.out _ (((Below.refl _ _).alloc (Nat.le_refl _) _).alloc (by simp) _)).mono ?_
    rintro x _ ⟨rfl, rfl⟩
    go_wp2_with fail
    go_loop [16] (fun j => j = .int .i64 (-1)) (fun _ => 0)
    case atStart => rfl
    case round =>
      subst hrel
      go_wp2_with fail
      have hbel : Below w.heap.size w ((w.alloc (.cells #[.int .i64 0, .int .i64 0, .int .u64 0, .slice none 0 0, .slice none 0 0] 34)).alloc (.cells #[.int .i64 ((m : Int) / 8), .int .i64 0, .int .u64 m2, .slice none 0 0, .slice none 0 0] 34)) := ((Below.refl _ _).alloc (Nat.le_refl _) _).alloc (by simp) _
      have hres : Blk ((w.alloc (.cells #[.int .i64 0, .int .i64 0, .int .u64 0, .slice none 0 0, .slice none 0 0] 34)).alloc (.cells #[.int .i64 ((m : Int) / 8), .int .i64 0, .int .u64 m2, .slice none 0 0, .slice none 0 0] 34)) w.heap.size 34 #[.int .i64 0, .int .i64 0, .int .u64 0, .slice none 0 0, .slice none 0 0] := (Blk.new _ _ _).alloc _
      have hrec : Blk ((w.alloc (.cells #[.int .i64 0, .int .i64 0, .int .u64 0, .slice none 0 0, .slice none 0 0] 34)).alloc (.cells #[.int .i64 ((m : Int) / 8), .int .i64 0, .int .u64 m2, .slice none 0 0, .slice none 0 0] 34)) (w.heap.size + 1) 34 #[.int .i64 ((m : Int) / 8), .int .i64 0, .int .u64 m2, .slice none 0 0, .slice none 0 0] := by
        have := Blk.new (w.alloc (.cells #[.int .i64 0, .int .i64 0, .int .u64 0, .slice none 0 0, .slice none 0 0] 34)) 34 #[.int .i64 ((m : Int) / 8), .int .i64 0, .int .u64 m2, .slice none 0 0, .slice none 0 0]
        simpa using this
      refine (copyBytes_any (HBs.out _ hbel) (by simp; omega)).mono ?_
      rintro x W2 ⟨v2, rfl, ho, hb⟩
      obtain ⟨A2, n2, c2, rfl⟩ := ho.val
      have HF := Lib.hid (rn_fin hres hrec hbel (by omega) (Own.nil _ _) (by simp [Value.ownBlock]) hb ho)
      obtain ⟨⟨d0, d1, d2, d3, d4⟩, ⟨e0, e1, e2, e3, e4⟩⟩ := (hrec.below hb hrec.lt).five
      obtain ⟨⟨r0, r1, r2, r3, r4⟩, ⟨q0, q1, q2, q3, q4⟩⟩ := (hres.below hb hres.lt).five
      clear hbel hres hrec hb ho
      go_wp2
      exact bodyPost_ret (results_rec3 Try.results32 _ _ w.heap.size _ _ _ _ _ rfl HF.out.end_.1) rfl (HF.out.next HX.out)
  · have hne : ((e2 : Int) != 0) = true := by simp; omega
    have HX := Lib.hid (hnx0 he)
    clear hnx0 hnx1 hr hr2 hbr hbd hbd2 hB h3 he
    generalize endOf k (e2, m2, k2) = E at *
    go_enter Try.func32, Try.ntmps32
    go_wp2_with fail
    refine (HN.out _ ((Below.refl _ _).alloc (Nat.le_refl _) _)).mono ?_
    rintro x _ ⟨rfl, rfl⟩
    go_wp2_with fail
    refine (HN2.out _ (((Below.refl _ _).alloc (Nat.le_refl _) _).alloc (by simp) _)).mono ?_
    rintro x _ ⟨rfl, rfl⟩
    go_wp2
    exact bodyPost_ret (results_rec3 Try.results32 _ _ w.heap.size _ _ _ _ _ rfl ((Blk.new _ _ _).alloc _)) rfl (rn_err1 HX.out)
end Go.Proofs.Ytlckppmggklinaa
