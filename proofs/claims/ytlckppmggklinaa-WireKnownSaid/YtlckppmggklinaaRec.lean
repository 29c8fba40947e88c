/-
  The reader: counted, record.
-/
import Derived.Test.YtlckppmggklinaaTake
namespace Go.Proofs.Ytlckppmggklinaa
open Go.RowKit
set_option linter.unusedVariables false

theorem Bs.only {w w' : World} {lo hi n c g : Nat} {A : Option Addr} {l : List UInt8} (h : Bs w lo hi A n c l) (hg : w.grownBy w' (some g)) (hlt : hi ≤ w.heap.size) (hgi : hi ≤ g) : Bs w' lo hi A n c l :=
  h.kept (.of_grown hg hlt (fun x hx => .inr (by injection hx with hx; omega)))

set_option maxRecDepth 100000 in
set_option maxHeartbeats 400000 in
theorem counted_any {w : World} {g lo hi n c p : Nat} {A : Option Addr} {l : List UInt8} (hR : Rd w g A n c p) (hB : Bs w lo hi A n c l) (hg : hi ≤ g) (hp : p ≤ n) (hn : n ≤ 2147483648) :
    Calls Try.prog 56 #[.pointer (some ⟨g, 0, none⟩)] w (BodyP w g A n c p lo hi (ctR (l.drop p))) := by
  have hl := hB.len
  have hgl := hR.lt
  have hv := varint_any hR hB hg hp hn
  have hbd := rv_bound (l.drop p) 0 0 (by omega) (by decide)
  have hdl : (l.drop p).length = n - p := by simp; omega
  have hct : ctR (l.drop p) = let r := rv (l.drop p) 0 0
    if r.1 ≠ 0 then (r.1, 0, [], 0) else if 1048576 < r.2.1 then (5, 0, [], 0) else if (l.drop p).length < r.2.2 + r.2.1 then (3, 0, [], 0) else (0, 0, ((l.drop p).drop r.2.2).take r.2.1, r.2.2 + r.2.1) := rfl
  obtain ⟨R, hRR⟩ : ∃ R, R = ctR (l.drop p) := ⟨_, rfl⟩
  rw [← hRR] at hct ⊢
  have herr := rv_err (l.drop p) 0 0
  generalize rv (l.drop p) 0 0 = r at *
  obtain ⟨e, m, k⟩ := r
  simp only at hct hbd herr
  have HV := Lib.hid hv
  clear hv hR hRR
  by_cases he : e = 0
  · subst he
    have hbk := hbd.2 rfl
    have hbm := hbd.1
    clear hbd herr
    by_cases hm : 1048576 < m
    · have hb : (1048576 : Int) < (m : Int) := by omega
      rw [if_neg (by simp), if_pos hm] at hct
      have HC := Lib.hid hct
      clear hct
      go_enter Try.func56, Try.ntmps56
      go_wp2_with fail
      refine HV.out.mono ?_
      rintro e w1 ⟨p1, rfl, hR1, hG1, hp1, hp2⟩
      have HR1 := Lib.hid hR1
      clear hR1 hp2
      go_wp2
      refine bodyPost_ret (v := .tuple #[.int .u64 0, .slice none 0 0, .int .i64 5]) (by simp [results, Try.results56, go_sem]) rfl ?_
      rw [HC.out]
      exact ⟨none, 0, p1, rfl, HR1.out, hG1, Bs.none_ _ _ _ _ (by unfold maxLen; omega), hp1, fun h => by cases h⟩
    · have hb : ¬ (1048576 : Int) < (m : Int) := by omega
      have hm2 : (m : Int) ≤ 1048576 := by omega
      rw [if_neg (by simp), if_neg hm] at hct
      by_cases hs : (l.drop p).length < k + m
      · rw [if_pos hs] at hct
        have HC := Lib.hid hct
        clear hct
        go_enter Try.func56, Try.ntmps56
        go_wp2_with fail
        refine HV.out.mono ?_
        rintro e w1 ⟨p1, rfl, hR1, hG1, hp1, hp2⟩
        have hp3 := hp2 rfl
        simp only at hp3
        subst hp3
        have HR1 := Lib.hid hR1
        clear hR1 hp2
        go_wp2_with fail
        refine (take_no HR1.out hp1 (by omega) hn (by omega)).mono ?_
        rintro e w2 ⟨rfl, q, rfl⟩
        go_wp2
        refine bodyPost_ret (v := .tuple #[.int .u64 0, .slice none 0 0, .int .i64 3]) (by simp [results, Try.results56, go_sem]) rfl ?_
        rw [HC.out]
        exact ⟨none, 0, p + k, rfl, HR1.out.drewN q, only_drewN hG1 q, Bs.none_ _ _ _ _ (by unfold maxLen; omega), hp1, fun h => by cases h⟩
      · rw [if_neg hs] at hct
        have HC := Lib.hid hct
        clear hct
        go_enter Try.func56, Try.ntmps56
        go_wp2_with fail
        refine HV.out.mono ?_
        rintro e w1 ⟨p1, rfl, hR1, hG1, hp1, hp2⟩
        have hp3 := hp2 rfl
        simp only at hp3
        subst hp3
        have HR1 := Lib.hid hR1
        clear hR1 hp2
        go_wp2_with fail
        refine (take_yes HR1.out (hB.only hG1 (by omega) hg) hg (by omega) hn).mono ?_
        rintro e w2 ⟨A', rfl, hR2, hG2, hB2⟩
        have HR2 := Lib.hid hR2
        clear hR2
        go_wp2
        refine bodyPost_ret (v := .tuple #[.int .u64 0, .slice A' m m, .int .i64 0]) (by simp [results, Try.results56, go_sem]) rfl ?_
        rw [HC.out]
        refine ⟨A', m, p + k + m, rfl, HR2.out, only_trans hG1 hG2, ?_, by omega, fun _ => by simp only; omega⟩
        simpa [List.drop_drop] using hB2
  · have hb : ((e : Int) != 0) = true := by simp; omega
    rw [if_pos (by simpa using he)] at hct
    have HC := Lib.hid hct
    clear hct
    have HE := Lib.hid he
    clear he
    go_enter Try.func56, Try.ntmps56
    go_wp2_with fail
    refine HV.out.mono ?_
    rintro e' w1 ⟨p1, rfl, hR1, hG1, hp1, hp2⟩
    have HR1 := Lib.hid hR1
    clear hR1 hp2 hbd herr
    go_wp2
    refine bodyPost_ret (v := .tuple #[.int .u64 0, .slice none 0 0, .int .i64 e]) (by simp [results, Try.results56, go_sem]) rfl ?_
    rw [HC.out]
    exact ⟨none, 0, p1, rfl, HR1.out, hG1, Bs.none_ _ _ _ _ (by unfold maxLen; omega), hp1, fun h => absurd h HE.out⟩
end Go.Proofs.Ytlckppmggklinaa
