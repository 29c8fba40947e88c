/-
  The reader: record, by what stands behind the number.
-/
import Derived.Test.YtlckppmggklinaaRec2
namespace Go.Proofs.Ytlckppmggklinaa
open Go.RowKit
set_option linter.unusedVariables false

set_option maxRecDepth 100000 in
set_option maxHeartbeats 1000000 in
theorem record_ok52 {w : World} {g lo hi n c p m k x : Nat} {A : Option Addr} {l : List UInt8} (hR : Rd w g A n c p) (hB : Bs w lo hi A n c l) (hg : hi ≤ g) (hp : p ≤ n) (hn : n ≤ 2147483648)
    (hr : rv (l.drop p) 0 0 = (0, m, k)) (h1 : 1 ≤ m / 8) (h2 : m / 8 ≤ 536870911) (h3 : m % 8 = x)
    (hix : ∀ w, (Instr.index 78 (bodiesV g) (.int .i64 (x : Int))).run Try.prog w = .ok (.func (.func 52) #[.pointer (some ⟨g, 0, none⟩)] #[]) w)
    (hbody : ∀ (W : World) (p' : Nat), Rd W g A n c p' → Bs W lo hi A n c l → p' ≤ n → Calls Try.prog 52 #[.pointer (some ⟨g, 0, none⟩)] W (BodyP W g A n c p' lo hi (bdR x (l.drop p')))) :
    Calls Try.prog 49 #[.pointer (some ⟨g, 0, none⟩)] w (RecP w g A n c p lo hi (nxR (l.drop p))) := by
  have hgl := hR.lt
  have hv := varint_any (hR.alloc (.cells #[.int .i64 0, .int .i64 0, .int .u64 0, .slice none 0 0, .slice none 0 0] 34)) (hB.alloc (by omega) _) hg hp hn
  rw [hr] at hv
  have HV := Lib.hid hv
  have HR0 := Lib.hid hR
  have hc1 : w.cell? ⟨g, 1, none⟩ = some (.int .i64 (p : Int)) := hR.cell 1
  have hbd := rv_bound (l.drop p) 0 0 (by omega) (by decide)
  rw [hr] at hbd
  have hm64 := hbd.1
  simp only at hm64
  have HM := Lib.hid h3
  have e1 : bits .and .u64 (m : Int) 7 = (x : Int) := by
    have h := bits_mask .u64 64 (by decide) wraps_u64 3 (by decide) (m : Int) (by omega) (by omega)
    have h' : bits .and .u64 (m : Int) 7 = (m : Int) % 8 := by simpa using h
    rw [h']; omega
  have hx7 : x ≤ 7 := by omega
  have e2 : (((m : Int) / 8) == 0) = false := by simp; omega
  have e3 : ¬ (536870911 : Int) < (m : Int) / 8 := by omega
  have hnn := func_nil 52 #[.pointer (some ⟨g, 0, none⟩)]
  have HBD := Lib.hid hbody
  have HRV := Lib.hid hr
  clear hR hv hr hbd h3 hbody
  obtain ⟨Q, hQ⟩ : ∃ Q, Q = bdR x (l.drop (p + k)) := ⟨_, rfl⟩
  have HQ := Lib.hid hQ
  by_cases hq : Q.1 = 0
  · have hb : ((Q.1 : Int) != 0) = false := by simp [hq]
    have HQ0 := Lib.hid hq
    clear hq hQ
    go_enter Try.func49, Try.ntmps49
    go_wp2_with fail
    refine HV.out.mono ?_
    rintro e w1 ⟨p1, rfl, hR1, hG1, hp1, hp2⟩
    have hp3 := hp2 rfl
    simp only at hp3
    subst hp3
    have HR1 := Lib.hid hR1
    clear hR1 hp2
    go_wp2_with fail
    refine (bodies_any g _).mono ?_
    rintro e w2 ⟨rfl, o, rfl⟩
    go_wp2_with fail
    have hB2 := ((hB.alloc (Nat.le_trans hg (Nat.le_of_lt hgl)) _).only hG1 (by simp; omega) hg).alloc (by have := hG1.size; simp at this; omega) o
    refine (HBD.out _ _ (HR1.out.alloc o) hB2 hp1).mono ?_
    rw [← HQ.out]
    rintro e w3 ⟨A', n', p3, rfl, hR3, hG3, hB3, hp3, hp4⟩
    have HR3 := Lib.hid hR3
    have hp5 := hp4 HQ0.out
    subst hp5
    clear hp4 hR3
    have hz1 : w.heap.size + 1 ≤ w1.heap.size := by have := hG1.size; simpa using this
    have hz3 : w1.heap.size + 1 ≤ w3.heap.size := by have := hG3.size; simpa using this
    have hbl := (((Blk.new w 34 #[.int .i64 0, .int .i64 0, .int .u64 0, .slice none 0 0, .slice none 0 0]).grown hG1 (by intro h; injection h with h; omega)).alloc o).grown hG3 (by intro h; injection h with h; omega)
    have hB3' := hB2.only hG3 (by simp; omega) hg
    go_wp2_with fail
    refine (since_any (f := p) HR3.out hB3' (by omega) hp3 hn).mono ?_
    rintro e w4 ⟨A4, q, rfl, rfl, hB4⟩
    obtain ⟨⟨c0, c1, c2, c3, c4⟩, ⟨f0, f1, f2, f3, f4⟩⟩ := hbl.five
    have HBL := Lib.hid hbl
    clear hbl
    go_wp2
    have HB5 := Blk.set5 (HBL.out.drewN q) (.int .i64 ((m : Int) / 8)) (.int .i64 x) (.int .u64 Q.2.1) (.slice A' n' n') (.slice A4 (p + k + Q.2.2.2 - p) (p + k + Q.2.2.2 - p))
    exact bodyPost_ret (results_rec Try.results49 _ _ w.heap.size _ _ _ _ _ rfl HB5) rfl (rec_end hgl hg HRV h1 h2 HM HQ HQ0 hG1 hG3 HR3 hB3 hB4 hp3)
  · have hb : ((Q.1 : Int) != 0) = true := by simp; omega
    have HQ0 := Lib.hid hq
    clear hq hQ
    go_enter Try.func49, Try.ntmps49
    go_wp2_with fail
    refine HV.out.mono ?_
    rintro e w1 ⟨p1, rfl, hR1, hG1, hp1, hp2⟩
    have hp3 := hp2 rfl
    simp only at hp3
    subst hp3
    have HR1 := Lib.hid hR1
    clear hR1 hp2
    go_wp2_with fail
    refine (bodies_any g _).mono ?_
    rintro e w2 ⟨rfl, o, rfl⟩
    go_wp2_with fail
    have hB2 := ((hB.alloc (Nat.le_trans hg (Nat.le_of_lt hgl)) _).only hG1 (by simp; omega) hg).alloc (by have := hG1.size; simp at this; omega) o
    refine (HBD.out _ _ (HR1.out.alloc o) hB2 hp1).mono ?_
    rw [← HQ.out]
    rintro e w3 ⟨A', n', p3, rfl, hR3, hG3, hB3, hp3, hp4⟩
    have HR3 := Lib.hid hR3
    clear hp4 hR3
    have hz1 : w.heap.size + 1 ≤ w1.heap.size := by have := hG1.size; simpa using this
    have hz3 : w1.heap.size + 1 ≤ w3.heap.size := by have := hG3.size; simpa using this
    have hbl := (((Blk.new w 34 #[.int .i64 0, .int .i64 0, .int .u64 0, .slice none 0 0, .slice none 0 0]).grown hG1 (by intro h; injection h with h; omega)).alloc o).grown hG3 (by intro h; injection h with h; omega)
    obtain ⟨⟨c0, c1, c2, c3, c4⟩, ⟨f0, f1, f2, f3, f4⟩⟩ := hbl.five
    have HBL := Lib.hid hbl
    clear hbl
    go_wp2
    have HB5 := Blk.set5 HBL.out (.int .i64 0) (.int .i64 0) (.int .u64 0) (.slice none 0 0) (.slice none 0 0)
    exact bodyPost_ret (results_rec Try.results49 _ _ w.heap.size _ _ _ _ _ rfl HB5) rfl (rec_err hgl HQ0.out (nx_bad HRV h1 h2 HM HQ HQ0) HR3.out (only_trans (only_alloc (only_alloc0 _ hG1) o) hG3) hp3)
end Go.Proofs.Ytlckppmggklinaa
