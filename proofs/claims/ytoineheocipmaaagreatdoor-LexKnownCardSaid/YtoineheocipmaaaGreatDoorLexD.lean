/-
  lex: numbers (given what their value is), literals.
-/
import Derived.Test.YtoineheocipmaaaGreatDoorLexC
import Derived.Test.YtoineheocipmaaaGreatDoorUnq3
import Derived.Deep.RegionWith
namespace Go.Proofs.YtoineheocipmaaaGreatDoor
open Go.RowKit
set_option linter.unusedVariables false
set_option linter.unusedSimpArgs false

set_option maxRecDepth 100000 in
set_option maxHeartbeats 1000000 in
theorem number_ok {w : World} {b p : Nat} {s : ByteArray} (h : Scn w b s p) (hp : p < s.size) (hs : s.size ≤ 1000000) (hy : dgZ (s[p].toNat : Nat) = true) (t : ByteArray) (ht : s.extract p (p + (runL (s.data.toList.drop p)).length) = t) (N : Int) (hv : ∀ W, Below w.heap.size w W → Calls Tryz.prog 152 #[.string t] W fun e w' => e = .returned (.tuple #[.int .i64 N, .int .i64 0]) ∧ Below W.heap.size W w') :
    Calls Tryz.prog 86 #[.pointer (some ⟨b, 0, none⟩)] w (RdP w (wv 2 p t N) (runL (s.data.toList.drop p)).length 0) := by
  have hA : ∀ o, Scn (w.alloc o) b s p := fun o => Blk.alloc h o
  have HA := Lib.hid hA
  have c0 : ∀ o, (w.alloc o).cell? ⟨b, 0, none⟩ = some (.string s) := fun o => (hA o).cell 0
  have c1 : ∀ o, (w.alloc o).cell? ⟨b, 1, none⟩ = some (.int .i64 p) := fun o => (hA o).cell 1
  have p0 : (0 : Int) ≤ (p : Int) := by omega
  have p1 : (p : Int) < (s.size : Int) := by omega
  have hb := Blk.lt h
  clear hA
  have hss := fun W => same_of (lisDigit_any (s[p].toNat : Nat) W)
  rw [hy] at hss
  generalize hx : s[p] = c at *
  have HS := Lib.hid hss
  have hrl := runL_len (s.data.toList.drop p)
  have hrun := fun W (hW : Scn W b s p) => run_any (w := W) hW (by omega) hs
  have htl : (s.extract p (p + (runL (s.data.toList.drop p)).length)).data.toList = runL (s.data.toList.drop p) := ext_run s p
  rw [ht] at htl
  simp only [ht] at hrun
  have HRUN := Lib.hid hrun
  have HT := Lib.hid ht
  have HTZ := Lib.hid (show t.size = (runL (s.data.toList.drop p)).length by rw [← htl]; simp)
  have HV := Lib.hid hv
  clear hss hy hv h hrl hrun htl ht
  go_enter Tryz.func86, Tryz.ntmps86
  go_wp2_with fail
  go_quiet ((go_at_call 151; exact Calls.quiet_of_same (HS.out _)))
  go_wp2_with fail
  refine (HRUN.out ((w.alloc Z33).drewN nq) (HA.out _)).mono ?_
  rintro e w2 ⟨rfl, hb2⟩
  have HB2 := Lib.hid (show Below w.heap.size w w2 from (Below.drewN_ ((Below.refl w.heap.size w).alloc (Nat.le_refl _) Z33) nq).trans (hb2.mono (by simp)))
  have hz : Blk w2 w.heap.size 33 #[.int .i64 0, .int .i64 0, .string ⟨#[]⟩, .int .i64 0] := Blk.below (w := (w.alloc Z33).drewN nq) (Blk.new w 33 _) hb2 (by simp)
  have hscn : Scn w2 b s p := Blk.below (w := (w.alloc Z33).drewN nq) (HA.out _) hb2 (by simp; omega)
  have HZ2 := Lib.hid hz
  have HS2 := Lib.hid hscn
  have hsz2 : w.heap.size < w2.heap.size := hz.lt
  clear hb2 hz hscn c0 c1
  go_wp2_with fail
  refine (HV.out _ HB2.out).mono ?_
  rintro e w3 ⟨rfl, hb3⟩
  have HB3 := Lib.hid (HB2.out.trans (hb3.mono HB2.out.size))
  have hz : Blk w3 w.heap.size 33 #[.int .i64 0, .int .i64 0, .string ⟨#[]⟩, .int .i64 0] := HZ2.out.below hb3 hsz2
  have d1 : w3.cell? ⟨b, 1, none⟩ = some (.int .i64 p) := (Blk.below HS2.out hb3 (by omega)).cell 1
  have HZ := Lib.hid hz
  obtain ⟨z0, z1, z2, z3, y0, y1, y2, y3⟩ := blk33 hz
  clear hz hb3
  go_wp2_with fail
  obtain ⟨f0, f1, f2, f3, _, _, _, _⟩ := blk33 (set4 HZ.out (.int .i64 2) (.int .i64 p) (.string t) (.int .i64 N))
  refine bodyPost_ret (v := .tuple #[wv 2 p t N, .int .i64 (t.size : Nat), .int .i64 0]) (by simp [results, Tryz.results86, go_sem, wv, f0, f1, f2, f3]) rfl ⟨by rw [HTZ.out]; rfl, ?_⟩
  exact below_set4 HB3.out (Nat.le_refl _) _ _ _ _
set_option maxRecDepth 100000 in
set_option maxHeartbeats 1000000 in
theorem number_bad {w : World} {b p : Nat} {s : ByteArray} (h : Scn w b s p) (hp : p < s.size) (hs : s.size ≤ 1000000) (hy : dgZ (s[p].toNat : Nat) = true) (t : ByteArray) (ht : s.extract p (p + (runL (s.data.toList.drop p)).length) = t) (N : Int) (E : Nat) (hE : E ≠ 0) (hv : ∀ W, Below w.heap.size w W → Calls Tryz.prog 152 #[.string t] W fun e w' => e = .returned (.tuple #[.int .i64 N, .int .i64 E]) ∧ Below W.heap.size W w') :
    Calls Tryz.prog 86 #[.pointer (some ⟨b, 0, none⟩)] w (RdP w (wv 0 0 ⟨#[]⟩ 0) 0 E) := by
  have hA : ∀ o, Scn (w.alloc o) b s p := fun o => Blk.alloc h o
  have HA := Lib.hid hA
  have c0 : ∀ o, (w.alloc o).cell? ⟨b, 0, none⟩ = some (.string s) := fun o => (hA o).cell 0
  have c1 : ∀ o, (w.alloc o).cell? ⟨b, 1, none⟩ = some (.int .i64 p) := fun o => (hA o).cell 1
  have p0 : (0 : Int) ≤ (p : Int) := by omega
  have p1 : (p : Int) < (s.size : Int) := by omega
  have hb := Blk.lt h
  clear hA
  have hss := fun W => same_of (lisDigit_any (s[p].toNat : Nat) W)
  rw [hy] at hss
  generalize hx : s[p] = c at *
  have HS := Lib.hid hss
  have hrl := runL_len (s.data.toList.drop p)
  have hrun := fun W (hW : Scn W b s p) => run_any (w := W) hW (by omega) hs
  have htl : (s.extract p (p + (runL (s.data.toList.drop p)).length)).data.toList = runL (s.data.toList.drop p) := ext_run s p
  rw [ht] at htl
  simp only [ht] at hrun
  have HRUN := Lib.hid hrun
  have HT := Lib.hid ht
  have HTZ := Lib.hid (show t.size = (runL (s.data.toList.drop p)).length by rw [← htl]; simp)
  have HV := Lib.hid hv
  clear hss hy hv h hrl hrun htl ht
  go_enter Tryz.func86, Tryz.ntmps86
  go_wp2_with fail
  go_quiet ((go_at_call 151; exact Calls.quiet_of_same (HS.out _)))
  go_wp2_with fail
  refine (HRUN.out ((w.alloc Z33).drewN nq) (HA.out _)).mono ?_
  rintro e w2 ⟨rfl, hb2⟩
  have HB2 := Lib.hid (show Below w.heap.size w w2 from (Below.drewN_ ((Below.refl w.heap.size w).alloc (Nat.le_refl _) Z33) nq).trans (hb2.mono (by simp)))
  have hz : Blk w2 w.heap.size 33 #[.int .i64 0, .int .i64 0, .string ⟨#[]⟩, .int .i64 0] := Blk.below (w := (w.alloc Z33).drewN nq) (Blk.new w 33 _) hb2 (by simp)
  have hscn : Scn w2 b s p := Blk.below (w := (w.alloc Z33).drewN nq) (HA.out _) hb2 (by simp; omega)
  have HZ2 := Lib.hid hz
  have HS2 := Lib.hid hscn
  have hsz2 : w.heap.size < w2.heap.size := hz.lt
  clear hb2 hz hscn c0 c1
  go_wp2_with fail
  refine (HV.out _ HB2.out).mono ?_
  rintro e w3 ⟨rfl, hb3⟩
  have HB3 := Lib.hid (HB2.out.trans (hb3.mono HB2.out.size))
  have hz : Blk w3 w.heap.size 33 #[.int .i64 0, .int .i64 0, .string ⟨#[]⟩, .int .i64 0] := HZ2.out.below hb3 hsz2
  have d1 : w3.cell? ⟨b, 1, none⟩ = some (.int .i64 p) := (Blk.below HS2.out hb3 (by omega)).cell 1
  have HZ := Lib.hid hz
  obtain ⟨z0, z1, z2, z3, y0, y1, y2, y3⟩ := blk33 hz
  clear hz hb3
  have hE' : ((E : Int) != 0) = true := by simp; omega
  clear hE
  go_wp2_with fail
  obtain ⟨f0, f1, f2, f3, _, _, _, _⟩ := blk33 (set4 HZ.out (.int .i64 0) (.int .i64 0) (.string ⟨#[]⟩) (.int .i64 0))
  refine bodyPost_ret (v := .tuple #[wv 0 0 ⟨#[]⟩ 0, .int .i64 0, .int .i64 E]) (by simp [results, Tryz.results86, go_sem, wv, f0, f1, f2, f3]) rfl ⟨rfl, ?_⟩
  exact below_set4 HB3.out (Nat.le_refl _) _ _ _ _
set_option maxRecDepth 100000 in
set_option maxHeartbeats 1000000 in
theorem lit_no {w : World} {b p : Nat} {s : ByteArray} (h : Scn w b s p) (hp : p < s.size) (h1 : s[p].toNat ≠ 34) (h2 : s[p].toNat ≠ 39) :
    Calls Tryz.prog 87 #[.pointer (some ⟨b, 0, none⟩)] w (RdP w (wv 0 0 ⟨#[]⟩ 0) 0 0) := by
  have hA : ∀ o, Scn (w.alloc o) b s p := fun o => Blk.alloc h o
  have HA := Lib.hid hA
  have c0 : ∀ o, (w.alloc o).cell? ⟨b, 0, none⟩ = some (.string s) := fun o => (hA o).cell 0
  have c1 : ∀ o, (w.alloc o).cell? ⟨b, 1, none⟩ = some (.int .i64 p) := fun o => (hA o).cell 1
  have p0 : (0 : Int) ≤ (p : Int) := by omega
  have p1 : (p : Int) < (s.size : Int) := by omega
  have hb := Blk.lt h
  clear hA
  obtain ⟨t, ht⟩ : ∃ t : ByteArray, s.extract p s.size = t := ⟨_, rfl⟩
  have htl : t.data.toList = s.data.toList.drop p := by rw [← ht]; exact Lib.extract_to_end s p
  have hts : t.size = s.size - p := by rw [← ht]; simp [ByteArray.size_extract]
  have p2 : (p : Int) ≤ (s.size : Int) := by omega
  have ht0 : 0 < t.size := by omega
  have hcx : t[0] = s[p] := by
    have h1 := drop_at t 0 ht0
    rw [List.drop_zero, htl, drop_at s p hp] at h1
    injection h1 with h1 _
    exact h1.symm
  generalize s[p] = c at *
  have e1 : ((c.toNat : Int) != 34) = true := by simp; omega
  have e2 : ((c.toNat : Int) != 39) = true := by simp; omega
  clear htl hts h h1 h2
  go_enter Tryz.func87, Tryz.ntmps87
  go_wp2_with fail
  go_quiet (fail)
  go_wp2_with fail
  refine bodyPost_ret (v := .tuple #[wv 0 0 ⟨#[]⟩ 0, .int .i64 0, .int .i64 0]) (by simp [results, Tryz.results87, go_sem, wv]) rfl ⟨rfl, ?_⟩
  exact below_set4 (Below.drewN_ ((Below.refl _ _).alloc (Nat.le_refl _) _) _) (Nat.le_refl _) _ _ _ _
set_option maxRecDepth 100000 in
set_option maxHeartbeats 1000000 in
theorem lit_open {w : World} {b p : Nat} {s : ByteArray} (h : Scn w b s p) (hp : p < s.size) (hs : s.size ≤ 1000000) (hq : s[p].toNat = 34 ∨ s[p].toNat = 39) (hl : liL (s.data.toList.drop p) = 0) :
    Calls Tryz.prog 87 #[.pointer (some ⟨b, 0, none⟩)] w (RdP w (wv 0 0 ⟨#[]⟩ 0) 0 21) := by
  have hA : ∀ o, Scn (w.alloc o) b s p := fun o => Blk.alloc h o
  have HA := Lib.hid hA
  have c0 : ∀ o, (w.alloc o).cell? ⟨b, 0, none⟩ = some (.string s) := fun o => (hA o).cell 0
  have c1 : ∀ o, (w.alloc o).cell? ⟨b, 1, none⟩ = some (.int .i64 p) := fun o => (hA o).cell 1
  have p0 : (0 : Int) ≤ (p : Int) := by omega
  have p1 : (p : Int) < (s.size : Int) := by omega
  have hb := Blk.lt h
  clear hA
  obtain ⟨t, ht⟩ : ∃ t : ByteArray, s.extract p s.size = t := ⟨_, rfl⟩
  have htl : t.data.toList = s.data.toList.drop p := by rw [← ht]; exact Lib.extract_to_end s p
  have hts : t.size = s.size - p := by rw [← ht]; simp [ByteArray.size_extract]
  have p2 : (p : Int) ≤ (s.size : Int) := by omega
  have ht0 : 0 < t.size := by omega
  have hcx : t[0] = s[p] := by
    have h1 := drop_at t 0 ht0
    rw [List.drop_zero, htl, drop_at s p hp] at h1
    injection h1 with h1 _
    exact h1.symm
  have hln := fun W => litLen_any t W ht0 (by omega)
  rw [htl, hl] at hln
  have HLN := Lib.hid hln
  generalize s[p] = c at *
  have hcs : ((c.toNat : Int) != 34) = false ∨ (((c.toNat : Int) != 34) = true ∧ ((c.toNat : Int) != 39) = false) := by
    rcases hq with h | h
    · left; simp; omega
    · right; constructor <;> (simp; omega)
  clear htl hts h hq hl hln
  go_enter Tryz.func87, Tryz.ntmps87
  go_wp2_with fail
  go_quiet (fail)
  go_upto_region 2 with fail
  go_cut [23] (fun v wx => v = .bool false ∧ (w.alloc Z33).drewN nq = wx)
  case first =>
    rcases hcs with d | ⟨d, d'⟩
    all_goals
      go_wp2_with fail
      go_meet
      exact ⟨rfl, rfl⟩
  case rest =>
    obtain ⟨rfl, rfl⟩ := hcut
    go_wp2_with fail
    refine (HLN.out _).mono ?_
    rintro e _ ⟨rfl, rfl⟩
    go_wp2_with fail
    refine bodyPost_ret (v := .tuple #[wv 0 0 ⟨#[]⟩ 0, .int .i64 0, .int .i64 21]) (by simp [results, Tryz.results87, go_sem, wv]) rfl ⟨rfl, ?_⟩
    exact below_set4 (Below.drewN_ ((Below.refl _ _).alloc (Nat.le_refl _) _) _) (Nat.le_refl _) _ _ _ _
set_option maxRecDepth 100000 in
set_option maxHeartbeats 1000000 in
theorem lit_bad {w : World} {b p : Nat} {s : ByteArray} (h : Scn w b s p) (hp : p < s.size) (hs : s.size ≤ 1000000) (hq : s[p].toNat = 34 ∨ s[p].toNat = 39) (L : Nat) (hl : liL (s.data.toList.drop p) = L) (hL : 0 < L) (hL2 : L ≤ s.size - p) (hu : unqL ((s.data.toList.drop p).take L) = none) :
    Calls Tryz.prog 87 #[.pointer (some ⟨b, 0, none⟩)] w (RdP w (wv 0 0 ⟨#[]⟩ 0) 0 21) := by
  have hA : ∀ o, Scn (w.alloc o) b s p := fun o => Blk.alloc h o
  have HA := Lib.hid hA
  have c0 : ∀ o, (w.alloc o).cell? ⟨b, 0, none⟩ = some (.string s) := fun o => (hA o).cell 0
  have c1 : ∀ o, (w.alloc o).cell? ⟨b, 1, none⟩ = some (.int .i64 p) := fun o => (hA o).cell 1
  have p0 : (0 : Int) ≤ (p : Int) := by omega
  have p1 : (p : Int) < (s.size : Int) := by omega
  have hb := Blk.lt h
  clear hA
  obtain ⟨t, ht⟩ : ∃ t : ByteArray, s.extract p s.size = t := ⟨_, rfl⟩
  have htl : t.data.toList = s.data.toList.drop p := by rw [← ht]; exact Lib.extract_to_end s p
  have hts : t.size = s.size - p := by rw [← ht]; simp [ByteArray.size_extract]
  have p2 : (p : Int) ≤ (s.size : Int) := by omega
  have ht0 : 0 < t.size := by omega
  have hcx : t[0] = s[p] := by
    have h1 := drop_at t 0 ht0
    rw [List.drop_zero, htl, drop_at s p hp] at h1
    injection h1 with h1 _
    exact h1.symm
  have hln := fun W => litLen_any t W ht0 (by omega)
  rw [htl, hl] at hln
  obtain ⟨u, hue⟩ : ∃ u : ByteArray, t.extract 0 L = u := ⟨_, rfl⟩
  have hul : u.data.toList = (s.data.toList.drop p).take L := by rw [← hue, extract_mid, htl]; simp
  have hus : u.size ≤ 1000000 := by rw [← hue]; simp [ByteArray.size_extract]; omega
  have hun := fun W => unquote_any u W hus
  rw [hul, hu] at hun
  have HUN := Lib.hid hun
  have l0 : (0 : Int) ≤ (L : Int) := by omega
  have l1 : (L : Int) ≤ (t.size : Int) := by omega
  have l2 : ((L : Int) == 0) = false := by simp; omega
  have HLN := Lib.hid hln
  generalize s[p] = c at *
  have hcs : ((c.toNat : Int) != 34) = false ∨ (((c.toNat : Int) != 34) = true ∧ ((c.toNat : Int) != 39) = false) := by
    rcases hq with h | h
    · left; simp; omega
    · right; constructor <;> (simp; omega)
  clear htl hts h hq hl hln hul hun hu hL
  go_enter Tryz.func87, Tryz.ntmps87
  go_wp2_with fail
  go_quiet (fail)
  go_upto_region 2 with fail
  go_cut [23] (fun v wx => v = .bool false ∧ (w.alloc Z33).drewN nq = wx)
  case first =>
    rcases hcs with d | ⟨d, d'⟩
    all_goals
      go_wp2_with fail
      go_meet
      exact ⟨rfl, rfl⟩
  case rest =>
    obtain ⟨rfl, rfl⟩ := hcut
    go_wp2_with fail
    refine (HLN.out _).mono ?_
    rintro e _ ⟨rfl, rfl⟩
    go_wp2_with fail
    refine (HUN.out _).mono ?_
    rintro e w3 ⟨v3, rfl, ho3, hb3⟩
    have HB3 := Lib.hid (show Below w.heap.size w w3 from (Below.drewN_ ((Below.refl w.heap.size w).alloc (Nat.le_refl _) Z33) nq).trans (hb3.mono (by simp)))
    have hz : Blk w3 w.heap.size 33 #[.int .i64 0, .int .i64 0, .string ⟨#[]⟩, .int .i64 0] := Blk.below (w := (w.alloc Z33).drewN nq) (Blk.new w 33 _) hb3 (by simp)
    have HZ := Lib.hid hz
    obtain ⟨z0, z1, z2, z3, y0, y1, y2, y3⟩ := blk33 hz
    unfold ansR
    clear hz hb3 ho3
    go_wp2_with fail
    obtain ⟨f0, f1, f2, f3, _, _, _, _⟩ := blk33 (set4 HZ.out (.int .i64 0) (.int .i64 0) (.string ⟨#[]⟩) (.int .i64 0))
    refine bodyPost_ret (v := .tuple #[wv 0 0 ⟨#[]⟩ 0, .int .i64 0, .int .i64 21]) (by simp [results, Tryz.results87, go_sem, wv, f0, f1, f2, f3]) rfl ⟨rfl, ?_⟩
    exact below_set4 HB3.out (Nat.le_refl _) _ _ _ _
set_option maxRecDepth 100000 in
set_option maxHeartbeats 1000000 in
theorem lit_ok {w : World} {b p : Nat} {s : ByteArray} (h : Scn w b s p) (hp : p < s.size) (hs : s.size ≤ 1000000) (hq : s[p].toNat = 34 ∨ s[p].toNat = 39) (L : Nat) (hl : liL (s.data.toList.drop p) = L) (hL : 0 < L) (hL2 : L ≤ s.size - p) (v : List UInt8) (hu : unqL ((s.data.toList.drop p).take L) = some v) :
    Calls Tryz.prog 87 #[.pointer (some ⟨b, 0, none⟩)] w (RdP w (wv 3 p ⟨v.toArray⟩ 0) L 0) := by
  have hA : ∀ o, Scn (w.alloc o) b s p := fun o => Blk.alloc h o
  have HA := Lib.hid hA
  have c0 : ∀ o, (w.alloc o).cell? ⟨b, 0, none⟩ = some (.string s) := fun o => (hA o).cell 0
  have c1 : ∀ o, (w.alloc o).cell? ⟨b, 1, none⟩ = some (.int .i64 p) := fun o => (hA o).cell 1
  have p0 : (0 : Int) ≤ (p : Int) := by omega
  have p1 : (p : Int) < (s.size : Int) := by omega
  have hb := Blk.lt h
  clear hA
  obtain ⟨t, ht⟩ : ∃ t : ByteArray, s.extract p s.size = t := ⟨_, rfl⟩
  have htl : t.data.toList = s.data.toList.drop p := by rw [← ht]; exact Lib.extract_to_end s p
  have hts : t.size = s.size - p := by rw [← ht]; simp [ByteArray.size_extract]
  have p2 : (p : Int) ≤ (s.size : Int) := by omega
  have ht0 : 0 < t.size := by omega
  have hcx : t[0] = s[p] := by
    have h1 := drop_at t 0 ht0
    rw [List.drop_zero, htl, drop_at s p hp] at h1
    injection h1 with h1 _
    exact h1.symm
  have hln := fun W => litLen_any t W ht0 (by omega)
  rw [htl, hl] at hln
  obtain ⟨u, hue⟩ : ∃ u : ByteArray, t.extract 0 L = u := ⟨_, rfl⟩
  have hul : u.data.toList = (s.data.toList.drop p).take L := by rw [← hue, extract_mid, htl]; simp
  have hus : u.size ≤ 1000000 := by rw [← hue]; simp [ByteArray.size_extract]; omega
  have hun := fun W => unquote_any u W hus
  rw [hul, hu] at hun
  have HUN := Lib.hid hun
  have l0 : (0 : Int) ≤ (L : Int) := by omega
  have l1 : (L : Int) ≤ (t.size : Int) := by omega
  have l2 : ((L : Int) == 0) = false := by simp; omega
  have HLN := Lib.hid hln
  generalize s[p] = c at *
  have hcs : ((c.toNat : Int) != 34) = false ∨ (((c.toNat : Int) != 34) = true ∧ ((c.toNat : Int) != 39) = false) := by
    rcases hq with h | h
    · left; simp; omega
    · right; constructor <;> (simp; omega)
  clear htl hts h hq hl hln hul hun hu hL
  go_enter Tryz.func87, Tryz.ntmps87
  go_wp2_with fail
  go_quiet (fail)
  go_upto_region 2 with fail
  go_cut [23] (fun v wx => v = .bool false ∧ (w.alloc Z33).drewN nq = wx)
  case first =>
    rcases hcs with d | ⟨d, d'⟩
    all_goals
      go_wp2_with fail
      go_meet
      exact ⟨rfl, rfl⟩
  case rest =>
    obtain ⟨rfl, rfl⟩ := hcut
    go_wp2_with fail
    refine (HLN.out _).mono ?_
    rintro e _ ⟨rfl, rfl⟩
    go_wp2_with fail
    refine (HUN.out _).mono ?_
    rintro e w3 ⟨v3, rfl, ho3, hb3⟩
    have HB3 := Lib.hid (show Below w.heap.size w w3 from (Below.drewN_ ((Below.refl w.heap.size w).alloc (Nat.le_refl _) Z33) nq).trans (hb3.mono (by simp)))
    have hz : Blk w3 w.heap.size 33 #[.int .i64 0, .int .i64 0, .string ⟨#[]⟩, .int .i64 0] := Blk.below (w := (w.alloc Z33).drewN nq) (Blk.new w 33 _) hb3 (by simp)
    have d1 : w3.cell? ⟨b, 1, none⟩ = some (.int .i64 p) := (Blk.below (w := (w.alloc Z33).drewN nq) (HA.out _) hb3 (by simp; omega)).cell 1
    have HZ := Lib.hid hz
    obtain ⟨z0, z1, z2, z3, y0, y1, y2, y3⟩ := blk33 hz
    obtain ⟨A3, c3, rfl, hB3⟩ := ho3.bs
    have hcv : (convert 42 9 (.slice A3 v.length c3)).run Tryz.prog w3 = .ok (.string ⟨v.toArray⟩) w3 := hB3.convert (P := Tryz.prog) 42 5 9 Tryz.underlying42 Tryz.underlying5 Tryz.underlying9
    have hcv' : (convert 42 9 (.slice A3 v.length c3)).run Tryz.prog w3.drew = .ok (.string ⟨v.toArray⟩) w3.drew := hB3.drew.convert (P := Tryz.prog) 42 5 9 Tryz.underlying42 Tryz.underlying5 Tryz.underlying9
    generalize (⟨v.toArray⟩ : ByteArray) = vb at *
    unfold ansR
    clear hz hb3 ho3 hB3
    go_wp2_with fail
    go_region_with (fail)
    all_goals
      go_wp2_with fail
      obtain ⟨f0, f1, f2, f3, _, _, _, _⟩ := blk33 (set4 HZ.out (.int .i64 3) (.int .i64 p) (.string vb) (.int .i64 0))
      refine bodyPost_ret (v := .tuple #[wv 3 p vb 0, .int .i64 L, .int .i64 0]) (by simp [results, Tryz.results87, go_sem, wv, f0, f1, f2, f3]) rfl ⟨rfl, ?_⟩
      exact (below_set4 HB3.out (Nat.le_refl _) _ _ _ _).drew
end Go.Proofs.YtoineheocipmaaaGreatDoor
