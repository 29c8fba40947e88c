/-
  The document's answer: Next, of bytes; Next, of whatever bytes there are.
-/
import Derived.Test.YtlckppmggklinaaRNext0
import Derived.Test.YtlckppmggklinaaRNext1
namespace Go.Proofs.Ytlckppmggklinaa
open Go.RowKit
set_option linter.unusedVariables false
attribute [local go_sem ↓] Go.wp_at_zero Go.wp_at_succ

theorem Bs.mid {w : World} {lo hi n c K m b o : Nat} {l : List UInt8} (h : Bs w lo hi (some ⟨b, o, none⟩) n c l) (hp : K + m ≤ n) : Bs w lo hi (some ⟨b, o + K, none⟩) m (c - K) ((l.drop K).take m) := by
  have hl := h.len
  have h1 := h.le
  have h2 := h.cap
  refine ⟨by simp; omega, by omega, by omega, fun hm => ?_⟩
  obtain ⟨b', o', e, h1, h2, h3⟩ := h.at_ (by omega)
  injection e with e
  injection e with e1 e2
  subst e1 e2
  refine ⟨_, _, rfl, h1, h2, fun j hj => ?_⟩
  have hj' : j < m := by simp at hj; omega
  have := h3 (K + j) (by omega)
  rw [show o + K + j = o + (K + j) by omega, this]; simp

set_option maxRecDepth 100000 in
set_option maxHeartbeats 2000000 in
theorem rnext_2 {w : World} {lo hi n c m k e2 m2 k2 : Nat} {A : Option Addr} {l : List UInt8} (hB : Bs w lo hi A n c l) (hhi : hi ≤ w.heap.size) (hn : n ≤ 2147483648) (hr : rv l 0 0 = (0, m, k)) (h1 : 1 ≤ m / 8) (h2 : m / 8 ≤ 536870911)
    (h3 : m % 8 = 2) (hr2 : rv (l.drop k) 0 0 = (e2, m2, k2)) :
    Calls Try.prog 32 #[.slice A n c] w (NextP w (nxR l)) := by
  have hbr : bdR (m % 8) (l.drop k) = ctR (l.drop k) := by rw [h3]; rfl
  have hl := hB.len
  have hbd := rv_bound l 0 0 (by omega) (by decide)
  rw [hr] at hbd
  have hkb := hbd.2 rfl
  have hm64 := hbd.1
  simp only at hm64 hkb
  have hbd2 := rv_bound (l.drop k) 0 0 (by omega) (by decide)
  rw [hr2] at hbd2
  have hnxe : ∀ e : Nat, e ≠ 0 → ctR (l.drop k) = (e, 0, [], 0) → nxR l = (e, .zero, 0) := fun e he hc => by
    unfold nxR; rw [hr]; simp only; rw [if_neg (by simp), if_neg (by omega), hbr, hc]; simp only; rw [if_pos he]
  have hnx0 : e2 ≠ 0 → nxR l = (e2, .zero, 0) := fun he => hnxe e2 he (by unfold ctR; simp only [hr2]; rw [if_pos he])
  have hnx5 : e2 = 0 → 1048576 < m2 → nxR l = (5, .zero, 0) := fun he h5 => hnxe 5 (by omega) (by unfold ctR; simp only [hr2]; rw [if_neg (by simpa using he), if_pos h5])
  have hnx3 : e2 = 0 → ¬ 1048576 < m2 → n < k + k2 + m2 → nxR l = (3, .zero, 0) := fun he h5 h6 => hnxe 3 (by omega) (by unfold ctR; simp only [hr2]; rw [if_neg (by simpa using he), if_neg h5, if_pos (by simp; omega)])
  have hnx1 : e2 = 0 → ¬ 1048576 < m2 → ¬ n < k + k2 + m2 → nxR l = (0, ⟨(m : Int) / 8, 2, 0, (l.drop (k + k2)).take m2, l.take (k + k2 + m2)⟩, k + k2 + m2) := fun he h5 h6 => by
    have hc : ctR (l.drop k) = (0, 0, (l.drop (k + k2)).take m2, k2 + m2) := by
      have hh : k2 ≤ n - k := by have := (hbd2.2 he).2; simp only [List.length_drop] at this; omega
      unfold ctR; simp only [hr2]; rw [if_neg (by simpa using he), if_neg h5, if_neg (by simp; omega), List.drop_drop]
    unfold nxR; rw [hr]; simp only; rw [if_neg (by simp), if_neg (by omega), hbr, hc]; simp only; rw [if_neg (by simp), h3, Nat.add_assoc]; rfl
  have HN := num_of hB hhi (Nat.zero_le _) hn 0 m k (by rw [List.drop_zero]; exact hr)
  rw [show endOf 0 (0, m, k) = k by simp [endOf]] at HN
  have HN2 := num_of hB hhi (show k ≤ n by omega) hn e2 m2 k2 hr2
  have g2 : ¬ (m : Int) / 8 < 1 := by omega
  have g3 : ¬ (536870911 : Int) < (m : Int) / 8 := by omega
  have g4 : (m : Int) % 8 = 2 := by omega
  by_cases he : e2 = 0
  · subst he
    have hkb2 := (hbd2.2 rfl).2
    simp only [List.length_drop] at hkb2
    have hm264 := hbd2.1
    simp only at hm264
    rw [show endOf k (0, m2, k2) = k + k2 by simp [endOf]] at HN2
    obtain ⟨K, hK⟩ : ∃ K, K = k + k2 := ⟨_, rfl⟩
    have hKn : K ≤ n := by omega
    simp only [← hK] at HN2 hnx1 hnx3
    clear hnx0 hr hr2 hbr hbd hbd2 h3 hK hnxe
    by_cases h5 : 1048576 < m2
    · have HX := Lib.hid (hnx5 rfl h5)
      have h5' : (1048576 : Int) < (m2 : Int) := by omega
      clear hB hnx5 hnx3 hnx1
      go_enter Try.func32, Try.ntmps32
      go_wp2_with fail
      refine (HN.out _ ((Below.refl _ _).alloc (Nat.le_refl _) _)).mono ?_
      rintro x _ ⟨rfl, rfl⟩
      go_wp2_with fail
      refine (HN2.out _ (((Below.refl _ _).alloc (Nat.le_refl _) _).alloc (by simp) _)).mono ?_
      rintro x _ ⟨rfl, rfl⟩
      go_wp2
      exact bodyPost_ret (results_rec3 Try.results32 _ _ w.heap.size _ _ _ _ _ rfl ((Blk.new _ _ _).alloc _)) rfl (rn_err1 (e := 5) HX.out)
    · have h5' : ¬ (1048576 : Int) < (m2 : Int) := by omega
      by_cases h6 : n < K + m2
      · have HX := Lib.hid (hnx3 trivial h5 h6)
        have h6' : (n : Int) - (K : Int) < (m2 : Int) := by omega
        clear hB hnx5 hnx3 hnx1
        go_enter Try.func32, Try.ntmps32
        go_wp2_with fail
        refine (HN.out _ ((Below.refl _ _).alloc (Nat.le_refl _) _)).mono ?_
        rintro x _ ⟨rfl, rfl⟩
        go_wp2_with fail
        refine (HN2.out _ (((Below.refl _ _).alloc (Nat.le_refl _) _).alloc (by simp) _)).mono ?_
        rintro x _ ⟨rfl, rfl⟩
        go_wp2
        exact bodyPost_ret (results_rec3 Try.results32 _ _ w.heap.size _ _ _ _ _ rfl ((Blk.new _ _ _).alloc _)) rfl (rn_err1 (e := 3) HX.out)
      · have HX := Lib.hid (hnx1 trivial h5 h6)
        have h6' : ¬ (n : Int) - (K : Int) < (m2 : Int) := by omega
        have hcap := hB.le
        have i2 : (K : Int) + (m2 : Int) ≤ (c : Int) := by omega
        have i1 : (K : Int) ≤ (K : Int) + (m2 : Int) := by omega
        have i0 : (0 : Int) ≤ (K : Int) := by omega
        have HBs := Lib.hid (fun (W : World) (h : Below w.heap.size w W) => (hB.below h hhi).pre (k := K + m2) (by omega))
        have HBd := Lib.hid (fun (W : World) (h : Below w.heap.size w W) => hB.below h hhi)
        obtain ⟨b, o, rfl, _, _, _⟩ := hB.at_ (by omega)
        have HB2 : Hid (∀ W : World, Below w.heap.size w W → Bs W lo hi (if c - K = 0 then some ⟨b, o, none⟩ else some ⟨b, o + K, none⟩) m2 (c - K) ((l.drop K).take m2)) := Lib.hid (fun W h => by
          have := (hB.below h hhi).mid (K := K) (m := m2) (by omega)
          split
          · have e : m2 = 0 := by omega
            subst e
            rw [List.take_zero]
            exact Bs.none_ _ _ _ _ this.cap
          · exact this)
        clear hB hnx5 hnx3 hnx1
        by_cases hcK : c - K = 0
        all_goals
          simp only [hcK, if_true, if_false] at HB2
          go_enter Try.func32, Try.ntmps32
          go_wp2_with fail
          refine (HN.out _ ((Below.refl _ _).alloc (Nat.le_refl _) _)).mono ?_
          rintro x _ ⟨rfl, rfl⟩
          go_wp2_with fail
          refine (HN2.out _ (((Below.refl _ _).alloc (Nat.le_refl _) _).alloc (by simp) _)).mono ?_
          rintro x _ ⟨rfl, rfl⟩
          go_wp2_with fail
          have hs0 := RnS.start w ((m : Int) / 8) 2 0 (.slice none 0 0)
          refine (copyBytes_any (HB2.out _ hs0.bel) (by simp; omega)).mono ?_
          rintro x W1 ⟨v1, rfl, ho1, hb1⟩
          obtain ⟨A1, n1, c1, rfl⟩ := ho1.val
          have hs1 := hs0.new hb1
          have hnb : Value.ownBlock (.slice A1 n1 c1) ≠ some (w.heap.size + 1) := fun e => by have := (ho1.lt e).1; simp at this; omega
          have HO := Lib.hid ((ho1.base_ (base' := w.heap.size + 1) hs0.res.lt).setCell (p := ⟨w.heap.size + 1, 3, none⟩) hnb (.slice A1 n1 c1))
          have HNB := Lib.hid hnb
          have HS := Lib.hid (hs1.setB (.slice A1 n1 c1))
          obtain ⟨⟨d0, d1, d2, d3, d4⟩, ⟨e0, e1, e2, e3, e4⟩⟩ := hs1.rec_.five
          clear hs0 hs1 ho1 hb1 hnb
          go_wp2_with fail
          go_loop [16] (fun j => j = .int .i64 ((m2 : Int) - 1)) (fun _ => 0)
          case atStart => rfl
          case round =>
            subst hrel
            by_cases hz : (0 : Int) ≤ (m2 : Int) - 1
            all_goals go_wp2_with fail
            all_goals
              refine (copyBytes_any (HBs.out _ HS.out.bel) (by simp; omega)).mono ?_
              rintro x W2 ⟨v2, rfl, ho2, hb2⟩
              obtain ⟨A2, n2, c2, rfl⟩ := ho2.val
              have HF := Lib.hid (HS.out.fin HO.out HNB.out hb2 ho2)
              have hs2 := HS.out.new hb2
              clear d0 d1 d2 d3 d4 e0 e1 e2 e3 e4
              obtain ⟨⟨d0, d1, d2, d3, d4⟩, ⟨e0, e1, e2, e3, e4⟩⟩ := hs2.rec_.five
              obtain ⟨⟨r0, r1, r2, r3, r4⟩, ⟨q0, q1, q2, q3, q4⟩⟩ := hs2.res.five
              clear hs2 hb2 ho2
              go_wp2
              exact bodyPost_ret (results_rec3 Try.results32 _ _ w.heap.size _ _ _ _ _ rfl HF.out.end_.1) rfl (HF.out.next HX.out)
  · have hne : ((e2 : Int) != 0) = true := by simp; omega
    have HX := Lib.hid (hnx0 he)
    clear hnx0 hnx1 hnx3 hnx5 hnxe hr hr2 hbr hbd hbd2 hB h3 he
    generalize endOf k (e2, m2, k2) = E at *
    go_enter Try.func32, Try.ntmps32
    go_wp2_with fail
    refine (HN.out _ ((Below.refl _ _).alloc (Nat.le_refl _) _)).mono ?_
    rintro x _ ⟨rfl, rfl⟩
    go_wp2_with fail
    refine (HN2.out _ (((Below.refl _ _).alloc (Nat.le_refl _) _).alloc (by simp) _)).mono ?_
    rintro x _ ⟨rfl, rfl⟩
    go_wp2
    exact bodyPost_ret (results_rec3 Try.results32 _ _ w.heap.size _ _ _ _ _ rfl ((Blk.new _ _ _).alloc _)) rfl (rn_err1 HX.out)

theorem rnext_any {w : World} {lo hi n c : Nat} {A : Option Addr} {l : List UInt8} (hB : Bs w lo hi A n c l) (hhi : hi ≤ w.heap.size) (hn : n ≤ 2147483648) : Calls Try.prog 32 #[.slice A n c] w (NextP w (nxR l)) := by
  obtain ⟨e, m, k, hr⟩ : ∃ e m k, rv l 0 0 = (e, m, k) := ⟨_, _, _, rfl⟩
  by_cases he : e = 0
  · subst he
    by_cases h1 : m / 8 = 0 ∨ 536870911 < m / 8
    · exact rnext_num hB hhi hn hr h1
    · have a1 : 1 ≤ m / 8 := by omega
      have a2 : m / 8 ≤ 536870911 := by omega
      by_cases h0 : m % 8 = 0
      · exact rnext_0 hB hhi hn hr a1 a2 h0 rfl
      by_cases h1 : m % 8 = 1
      · exact rnext_1 hB hhi hn hr a1 a2 h1
      by_cases h2 : m % 8 = 2
      · exact rnext_2 hB hhi hn hr a1 a2 h2 rfl
      by_cases h5 : m % 8 = 5
      · exact rnext_5 hB hhi hn hr a1 a2 h5
      exact rnext_wire hB hhi hn hr a1 a2 h0 h1 h2 h5
  · have h0 := rv_err l 0 0 (by rw [hr]; exact he)
    rw [hr] at h0
    exact rnext_tag hB hhi hn (by rw [hr]; exact h0.1) he
end Go.Proofs.Ytlckppmggklinaa
