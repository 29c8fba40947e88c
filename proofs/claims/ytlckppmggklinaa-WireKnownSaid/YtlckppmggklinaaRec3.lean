/-
  The reader: record.
-/
import Derived.Test.YtlckppmggklinaaRecOk52
import Derived.Test.YtlckppmggklinaaRecOk55
import Derived.Test.YtlckppmggklinaaRecOk56
import Derived.Test.YtlckppmggklinaaRecOk57
namespace Go.Proofs.Ytlckppmggklinaa
open Go.RowKit
set_option linter.unusedVariables false

theorem idx1 (g : Nat) : ∀ w, (Instr.index 78 (bodiesV g) (.int .i64 1)).run Try.prog w = .ok (.func (.func 55) #[.pointer (some ⟨g, 0, none⟩)] #[]) w := fun _ => by kernel_rfl
theorem idx2 (g : Nat) : ∀ w, (Instr.index 78 (bodiesV g) (.int .i64 2)).run Try.prog w = .ok (.func (.func 56) #[.pointer (some ⟨g, 0, none⟩)] #[]) w := fun _ => by kernel_rfl
theorem idx5 (g : Nat) : ∀ w, (Instr.index 78 (bodiesV g) (.int .i64 5)).run Try.prog w = .ok (.func (.func 57) #[.pointer (some ⟨g, 0, none⟩)] #[]) w := fun _ => by kernel_rfl
theorem idx3 (g : Nat) : ∀ w, (Instr.index 78 (bodiesV g) (.int .i64 3)).run Try.prog w = .ok .nilFunc w := fun _ => by kernel_rfl
theorem idx4 (g : Nat) : ∀ w, (Instr.index 78 (bodiesV g) (.int .i64 4)).run Try.prog w = .ok .nilFunc w := fun _ => by kernel_rfl
theorem idx6 (g : Nat) : ∀ w, (Instr.index 78 (bodiesV g) (.int .i64 6)).run Try.prog w = .ok .nilFunc w := fun _ => by kernel_rfl
theorem idx7 (g : Nat) : ∀ w, (Instr.index 78 (bodiesV g) (.int .i64 7)).run Try.prog w = .ok .nilFunc w := fun _ => by kernel_rfl

set_option maxRecDepth 100000 in
set_option maxHeartbeats 1000000 in
theorem record_nil {w : World} {g lo hi n c p m k x : Nat} {A : Option Addr} {l : List UInt8} (hR : Rd w g A n c p) (hB : Bs w lo hi A n c l) (hg : hi ≤ g) (hp : p ≤ n) (hn : n ≤ 2147483648)
    (hr : rv (l.drop p) 0 0 = (0, m, k)) (h1 : 1 ≤ m / 8) (h2 : m / 8 ≤ 536870911) (h3 : m % 8 = x)
    (hix : ∀ w, (Instr.index 78 (bodiesV g) (.int .i64 (x : Int))).run Try.prog w = .ok .nilFunc w) (hx : bdR x (l.drop (p + k)) = (10, 0, [], 0)) :
    Calls Try.prog 49 #[.pointer (some ⟨g, 0, none⟩)] w (RecP w g A n c p lo hi (nxR (l.drop p))) := by
  have hgl := hR.lt
  have hv := varint_any (hR.alloc (.cells #[.int .i64 0, .int .i64 0, .int .u64 0, .slice none 0 0, .slice none 0 0] 34)) (hB.alloc (by omega) _) hg hp hn
  rw [hr] at hv
  have HV := Lib.hid hv
  have hc1 : w.cell? ⟨g, 1, none⟩ = some (.int .i64 (p : Int)) := hR.cell 1
  have hbd := rv_bound (l.drop p) 0 0 (by omega) (by decide)
  rw [hr] at hbd
  have hm64 := hbd.1
  simp only at hm64
  have HM := Lib.hid h3
  have e1 : bits .and .u64 (m : Int) 7 = (x : Int) := by
    have h := bits_mask .u64 64 (by decide) wraps_u64 3 (by decide) (m : Int) (by omega) (by omega)
    have h' : bits .and .u64 (m : Int) 7 = (m : Int) % 8 := by simpa using h
    rw [h']; omega
  have hx7 : x ≤ 7 := by omega
  have e2 : (((m : Int) / 8) == 0) = false := by simp; omega
  have e3 : ¬ (536870911 : Int) < (m : Int) / 8 := by omega
  have hnn := nil_nil
  have HRV := Lib.hid hr
  have HX := Lib.hid hx.symm
  clear hR hv hr hbd h3 hx
  go_enter Try.func49, Try.ntmps49
  go_wp2_with fail
  refine HV.out.mono ?_
  rintro e w1 ⟨p1, rfl, hR1, hG1, hp1, hp2⟩
  have HR1 := Lib.hid hR1
  clear hR1 hp2
  go_wp2_with fail
  refine (bodies_any g _).mono ?_
  rintro e w2 ⟨rfl, o, rfl⟩
  have hz1 : w.heap.size + 1 ≤ w1.heap.size := by have := hG1.size; simpa using this
  have hbl := ((Blk.new w 34 #[.int .i64 0, .int .i64 0, .int .u64 0, .slice none 0 0, .slice none 0 0]).grown hG1 (by intro h; injection h with h; omega)).alloc o
  obtain ⟨⟨c0, c1, c2, c3, c4⟩, ⟨f0, f1, f2, f3, f4⟩⟩ := hbl.five
  have HBL := Lib.hid hbl
  clear hbl
  go_wp2
  have HB5 := Blk.set5 HBL.out (.int .i64 0) (.int .i64 0) (.int .u64 0) (.slice none 0 0) (.slice none 0 0)
  exact bodyPost_ret (results_rec Try.results49 _ _ w.heap.size _ _ _ _ _ rfl HB5) rfl (rec_err (e := 10) hgl (by omega) (nx_bad (Q := (10, 0, [], 0)) HRV h1 h2 HM HX (Lib.hid (by simp))) (HR1.out.alloc o) (only_alloc (only_alloc0 _ hG1) o) hp1)

set_option maxRecDepth 100000 in
set_option maxHeartbeats 1000000 in
theorem record_tag {w : World} {g lo hi n c p e : Nat} {A : Option Addr} {l : List UInt8} (hR : Rd w g A n c p) (hB : Bs w lo hi A n c l) (hg : hi ≤ g) (hp : p ≤ n) (hn : n ≤ 2147483648)
    (hr : rv (l.drop p) 0 0 = (e, 0, 0)) (he : e ≠ 0) :
    Calls Try.prog 49 #[.pointer (some ⟨g, 0, none⟩)] w (RecP w g A n c p lo hi (nxR (l.drop p))) := by
  have hgl := hR.lt
  have hnx : nxR (l.drop p) = (e, .zero, 0) := by unfold nxR; rw [hr]; simp only; rw [if_pos he]
  have hv := varint_any (hR.alloc (.cells #[.int .i64 0, .int .i64 0, .int .u64 0, .slice none 0 0, .slice none 0 0] 34)) (hB.alloc (by omega) _) hg hp hn
  rw [hr] at hv
  have HV := Lib.hid hv
  have HN := Lib.hid hnx
  have hc1 : w.cell? ⟨g, 1, none⟩ = some (.int .i64 (p : Int)) := hR.cell 1
  have hb : ((e : Int) != 0) = true := by simp; omega
  have HE := Lib.hid he
  clear hR hv hr he hnx
  go_enter Try.func49, Try.ntmps49
  go_wp2_with fail
  refine HV.out.mono ?_
  rintro e w1 ⟨p1, rfl, hR1, hG1, hp1, hp2⟩
  have HR1 := Lib.hid hR1
  clear hR1 hp2
  have hbl := (Blk.new w 34 #[.int .i64 0, .int .i64 0, .int .u64 0, .slice none 0 0, .slice none 0 0]).grown hG1 (by intro h; injection h with h; omega)
  obtain ⟨⟨c0, c1, c2, c3, c4⟩, ⟨f0, f1, f2, f3, f4⟩⟩ := hbl.five
  have HBL := Lib.hid hbl
  clear hbl
  go_wp2
  have HB5 := Blk.set5 HBL.out (.int .i64 0) (.int .i64 0) (.int .u64 0) (.slice none 0 0) (.slice none 0 0)
  exact bodyPost_ret (results_rec Try.results49 _ _ w.heap.size _ _ _ _ _ rfl HB5) rfl (rec_err hgl HE.out HN.out HR1.out (only_alloc0 _ hG1) hp1)

set_option maxRecDepth 100000 in
set_option maxHeartbeats 1000000 in
theorem record_num {w : World} {g lo hi n c p m k : Nat} {A : Option Addr} {l : List UInt8} (hR : Rd w g A n c p) (hB : Bs w lo hi A n c l) (hg : hi ≤ g) (hp : p ≤ n) (hn : n ≤ 2147483648)
    (hr : rv (l.drop p) 0 0 = (0, m, k)) (h1 : m / 8 = 0 ∨ 536870911 < m / 8) :
    Calls Try.prog 49 #[.pointer (some ⟨g, 0, none⟩)] w (RecP w g A n c p lo hi (nxR (l.drop p))) := by
  have hgl := hR.lt
  have hnx : nxR (l.drop p) = (4, .zero, 0) := by unfold nxR; rw [hr]; simp only; rw [if_neg (by simp), if_pos h1]
  have hv := varint_any (hR.alloc (.cells #[.int .i64 0, .int .i64 0, .int .u64 0, .slice none 0 0, .slice none 0 0] 34)) (hB.alloc (by omega) _) hg hp hn
  rw [hr] at hv
  have HV := Lib.hid hv
  have HN := Lib.hid hnx
  have hc1 : w.cell? ⟨g, 1, none⟩ = some (.int .i64 (p : Int)) := hR.cell 1
  have hbd := rv_bound (l.drop p) 0 0 (by omega) (by decide)
  rw [hr] at hbd
  have hm64 := hbd.1
  simp only at hm64
  obtain ⟨x, hx⟩ : ∃ x, x = m % 8 := ⟨_, rfl⟩
  have e1 : bits .and .u64 (m : Int) 7 = (x : Int) := by
    have h := bits_mask .u64 64 (by decide) wraps_u64 3 (by decide) (m : Int) (by omega) (by omega)
    have h' : bits .and .u64 (m : Int) 7 = (m : Int) % 8 := by simpa using h
    rw [h']; omega
  have hx7 : x ≤ 7 := by omega
  clear hR hv hr hbd hnx hx
  rcases h1 with h1 | h1
  · have e2 : (((m : Int) / 8) == 0) = true := by simp; omega
    clear h1
    go_enter Try.func49, Try.ntmps49
    go_wp2_with fail
    refine HV.out.mono ?_
    rintro e w1 ⟨p1, rfl, hR1, hG1, hp1, hp2⟩
    have HR1 := Lib.hid hR1
    clear hR1 hp2
    have hbl := (Blk.new w 34 #[.int .i64 0, .int .i64 0, .int .u64 0, .slice none 0 0, .slice none 0 0]).grown hG1 (by intro h; injection h with h; omega)
    obtain ⟨⟨c0, c1, c2, c3, c4⟩, ⟨f0, f1, f2, f3, f4⟩⟩ := hbl.five
    have HBL := Lib.hid hbl
    clear hbl
    go_wp2
    have HB5 := Blk.set5 HBL.out (.int .i64 0) (.int .i64 0) (.int .u64 0) (.slice none 0 0) (.slice none 0 0)
    exact bodyPost_ret (results_rec Try.results49 _ _ w.heap.size _ _ _ _ _ rfl HB5) rfl (rec_err (e := 4) hgl (by omega) HN.out HR1.out (only_alloc0 _ hG1) hp1)
  · have e2 : (((m : Int) / 8) == 0) = false := by simp; omega
    have e3 : (536870911 : Int) < (m : Int) / 8 := by omega
    clear h1
    go_enter Try.func49, Try.ntmps49
    go_wp2_with fail
    refine HV.out.mono ?_
    rintro e w1 ⟨p1, rfl, hR1, hG1, hp1, hp2⟩
    have HR1 := Lib.hid hR1
    clear hR1 hp2
    have hbl := (Blk.new w 34 #[.int .i64 0, .int .i64 0, .int .u64 0, .slice none 0 0, .slice none 0 0]).grown hG1 (by intro h; injection h with h; omega)
    obtain ⟨⟨c0, c1, c2, c3, c4⟩, ⟨f0, f1, f2, f3, f4⟩⟩ := hbl.five
    have HBL := Lib.hid hbl
    clear hbl
    go_wp2
    have HB5 := Blk.set5 HBL.out (.int .i64 0) (.int .i64 0) (.int .u64 0) (.slice none 0 0) (.slice none 0 0)
    exact bodyPost_ret (results_rec Try.results49 _ _ w.heap.size _ _ _ _ _ rfl HB5) rfl (rec_err (e := 4) hgl (by omega) HN.out HR1.out (only_alloc0 _ hG1) hp1)

theorem record_any {w : World} {g lo hi n c p : Nat} {A : Option Addr} {l : List UInt8} (hR : Rd w g A n c p) (hB : Bs w lo hi A n c l) (hg : hi ≤ g) (hp : p ≤ n) (hn : n ≤ 2147483648) :
    Calls Try.prog 49 #[.pointer (some ⟨g, 0, none⟩)] w (RecP w g A n c p lo hi (nxR (l.drop p))) := by
  rcases hr : rv (l.drop p) 0 0 with ⟨e, m, k⟩
  by_cases he : e = 0
  · subst he
    by_cases h1 : m / 8 = 0 ∨ 536870911 < m / 8
    · exact record_num hR hB hg hp hn hr h1
    · have h2 : 1 ≤ m / 8 := by omega
      have h3 : m / 8 ≤ 536870911 := by omega
      rcases (show m % 8 = 0 ∨ m % 8 = 1 ∨ m % 8 = 2 ∨ m % 8 = 3 ∨ m % 8 = 4 ∨ m % 8 = 5 ∨ m % 8 = 6 ∨ m % 8 = 7 by omega) with h | h | h | h | h | h | h | h
      · exact record_ok52 hR hB hg hp hn hr h2 h3 h (idx0 g) fun W p' a b c => varint_body a b hg c hn
      · exact record_ok55 hR hB hg hp hn hr h2 h3 h (idx1 g) fun W p' a b c => eight_any a b hg c hn
      · exact record_ok56 hR hB hg hp hn hr h2 h3 h (idx2 g) fun W p' a b c => counted_any a b hg c hn
      · exact record_nil hR hB hg hp hn hr h2 h3 h (idx3 g) rfl
      · exact record_nil hR hB hg hp hn hr h2 h3 h (idx4 g) rfl
      · exact record_ok57 hR hB hg hp hn hr h2 h3 h (idx5 g) fun W p' a b c => four_any a b hg c hn
      · exact record_nil hR hB hg hp hn hr h2 h3 h (idx6 g) rfl
      · exact record_nil hR hB hg hp hn hr h2 h3 h (idx7 g) rfl
  · have h := rv_err (l.drop p) 0 0 (by rw [hr]; exact he)
    rw [hr] at h
    have h' := h.1
    simp only [Prod.mk.injEq] at h'
    obtain ⟨_, rfl, rfl⟩ := h'
    exact record_tag hR hB hg hp hn hr he
end Go.Proofs.Ytlckppmggklinaa
