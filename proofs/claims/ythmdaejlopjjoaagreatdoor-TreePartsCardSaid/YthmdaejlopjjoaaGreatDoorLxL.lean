/-
  lex: numbers (given what their value is), literals.
  lex: what the readers answer, together.
  lex: lists of words, in memory.
-/
import Derived.Test.YthmdaejlopjjoaaGreatDoorLxA
import Derived.Test.YthmdaejlopjjoaaGreatDoorUnA
import Derived.Deep.RegionWith
import Derived.Test.YthmdaejlopjjoaaGreatDoorLxP
import Derived.Test.YthmdaejlopjjoaaGreatDoorTmA
namespace Go.Proofs.YthmdaejlopjjoaaGreatDoor
section
open Go.RowKit
set_option linter.unusedVariables false
set_option linter.unusedSimpArgs false

set_option maxRecDepth 100000 in
set_option maxHeartbeats 1000000 in
theorem number_ok {w : World} {b p : Nat} {s : ByteArray} (h : Scn w b s p) (hp : p < s.size) (hs : s.size ≤ 1000000) (hy : dgZ (s[p].toNat : Nat) = true) (t : ByteArray) (ht : s.extract p (p + (runL (s.data.toList.drop p)).length) = t) (N : Int) (hv : ∀ W, Below w.heap.size w W → Calls Tryz.prog 170 #[.string t] W fun e w' => e = .returned (.tuple #[.int .i64 N, .int .i64 0]) ∧ Below W.heap.size W w') :
    Calls Tryz.prog 139 #[.pointer (some ⟨b, 0, none⟩)] w (RdP w (wv 2 p t N) (runL (s.data.toList.drop p)).length 0) := by
  have hA : ∀ o, Scn (w.alloc o) b s p := fun o => Blk.alloc h o
  have HA := Lib.hid hA
  have c0 : ∀ o, (w.alloc o).cell? ⟨b, 0, none⟩ = some (.string s) := fun o => (hA o).cell 0
  have c1 : ∀ o, (w.alloc o).cell? ⟨b, 1, none⟩ = some (.int .i64 p) := fun o => (hA o).cell 1
  have p0 : (0 : Int) ≤ (p : Int) := by omega
  have p1 : (p : Int) < (s.size : Int) := by omega
  have hb := Blk.lt h
  clear hA
  have hss := fun W => same_of (lisDigit_any (s[p].toNat : Nat) W)
  rw [hy] at hss
  generalize hx : s[p] = c at *
  have HS := Lib.hid hss
  have hrl := runL_len (s.data.toList.drop p)
  have hrun := fun W (hW : Scn W b s p) => run_any (w := W) hW (by omega) hs
  have htl : (s.extract p (p + (runL (s.data.toList.drop p)).length)).data.toList = runL (s.data.toList.drop p) := ext_run s p
  rw [ht] at htl
  simp only [ht] at hrun
  have HRUN := Lib.hid hrun
  have HT := Lib.hid ht
  have HTZ := Lib.hid (show t.size = (runL (s.data.toList.drop p)).length by rw [← htl]; simp)
  have HV := Lib.hid hv
  clear hss hy hv h hrl hrun htl ht
  go_enter Tryz.func139, Tryz.ntmps139
  go_wp2_with fail
  go_quiet ((go_at_call 169; exact Calls.quiet_of_same (HS.out _)))
  go_wp2_with fail
  refine (HRUN.out ((w.alloc Z33).drewN nq) (HA.out _)).mono ?_
  rintro e w2 ⟨rfl, hb2⟩
  have HB2 := Lib.hid (show Below w.heap.size w w2 from (Below.drewN_ ((Below.refl w.heap.size w).alloc (Nat.le_refl _) Z33) nq).trans (hb2.mono (by simp)))
  have hz : Blk w2 w.heap.size 73 #[.int .i64 0, .int .i64 0, .string ⟨#[]⟩, .int .i64 0] := Blk.below (w := (w.alloc Z33).drewN nq) (Blk.new w 73 _) hb2 (by simp)
  have hscn : Scn w2 b s p := Blk.below (w := (w.alloc Z33).drewN nq) (HA.out _) hb2 (by simp; omega)
  have HZ2 := Lib.hid hz
  have HS2 := Lib.hid hscn
  have hsz2 : w.heap.size < w2.heap.size := hz.lt
  clear hb2 hz hscn c0 c1
  go_wp2_with fail
  refine (HV.out _ HB2.out).mono ?_
  rintro e w3 ⟨rfl, hb3⟩
  have HB3 := Lib.hid (HB2.out.trans (hb3.mono HB2.out.size))
  have hz : Blk w3 w.heap.size 73 #[.int .i64 0, .int .i64 0, .string ⟨#[]⟩, .int .i64 0] := HZ2.out.below hb3 hsz2
  have d1 : w3.cell? ⟨b, 1, none⟩ = some (.int .i64 p) := (Blk.below HS2.out hb3 (by omega)).cell 1
  have HZ := Lib.hid hz
  obtain ⟨z0, z1, z2, z3, y0, y1, y2, y3⟩ := blk33 hz
  clear hz hb3
  go_wp2_with fail
  obtain ⟨f0, f1, f2, f3, _, _, _, _⟩ := blk33 (set4 HZ.out (.int .i64 2) (.int .i64 p) (.string t) (.int .i64 N))
  refine bodyPost_ret (v := .tuple #[wv 2 p t N, .int .i64 (t.size : Nat), .int .i64 0]) (by simp [results, Tryz.results139, go_sem, wv, f0, f1, f2, f3]) rfl ⟨by rw [HTZ.out]; rfl, ?_⟩
  exact below_set4 HB3.out (Nat.le_refl _) _ _ _ _
set_option maxRecDepth 100000 in
set_option maxHeartbeats 1000000 in
theorem number_bad {w : World} {b p : Nat} {s : ByteArray} (h : Scn w b s p) (hp : p < s.size) (hs : s.size ≤ 1000000) (hy : dgZ (s[p].toNat : Nat) = true) (t : ByteArray) (ht : s.extract p (p + (runL (s.data.toList.drop p)).length) = t) (N : Int) (E : Nat) (hE : E ≠ 0) (hv : ∀ W, Below w.heap.size w W → Calls Tryz.prog 170 #[.string t] W fun e w' => e = .returned (.tuple #[.int .i64 N, .int .i64 E]) ∧ Below W.heap.size W w') :
    Calls Tryz.prog 139 #[.pointer (some ⟨b, 0, none⟩)] w (RdP w (wv 0 0 ⟨#[]⟩ 0) 0 E) := by
  have hA : ∀ o, Scn (w.alloc o) b s p := fun o => Blk.alloc h o
  have HA := Lib.hid hA
  have c0 : ∀ o, (w.alloc o).cell? ⟨b, 0, none⟩ = some (.string s) := fun o => (hA o).cell 0
  have c1 : ∀ o, (w.alloc o).cell? ⟨b, 1, none⟩ = some (.int .i64 p) := fun o => (hA o).cell 1
  have p0 : (0 : Int) ≤ (p : Int) := by omega
  have p1 : (p : Int) < (s.size : Int) := by omega
  have hb := Blk.lt h
  clear hA
  have hss := fun W => same_of (lisDigit_any (s[p].toNat : Nat) W)
  rw [hy] at hss
  generalize hx : s[p] = c at *
  have HS := Lib.hid hss
  have hrl := runL_len (s.data.toList.drop p)
  have hrun := fun W (hW : Scn W b s p) => run_any (w := W) hW (by omega) hs
  have htl : (s.extract p (p + (runL (s.data.toList.drop p)).length)).data.toList = runL (s.data.toList.drop p) := ext_run s p
  rw [ht] at htl
  simp only [ht] at hrun
  have HRUN := Lib.hid hrun
  have HT := Lib.hid ht
  have HTZ := Lib.hid (show t.size = (runL (s.data.toList.drop p)).length by rw [← htl]; simp)
  have HV := Lib.hid hv
  clear hss hy hv h hrl hrun htl ht
  go_enter Tryz.func139, Tryz.ntmps139
  go_wp2_with fail
  go_quiet ((go_at_call 169; exact Calls.quiet_of_same (HS.out _)))
  go_wp2_with fail
  refine (HRUN.out ((w.alloc Z33).drewN nq) (HA.out _)).mono ?_
  rintro e w2 ⟨rfl, hb2⟩
  have HB2 := Lib.hid (show Below w.heap.size w w2 from (Below.drewN_ ((Below.refl w.heap.size w).alloc (Nat.le_refl _) Z33) nq).trans (hb2.mono (by simp)))
  have hz : Blk w2 w.heap.size 73 #[.int .i64 0, .int .i64 0, .string ⟨#[]⟩, .int .i64 0] := Blk.below (w := (w.alloc Z33).drewN nq) (Blk.new w 73 _) hb2 (by simp)
  have hscn : Scn w2 b s p := Blk.below (w := (w.alloc Z33).drewN nq) (HA.out _) hb2 (by simp; omega)
  have HZ2 := Lib.hid hz
  have HS2 := Lib.hid hscn
  have hsz2 : w.heap.size < w2.heap.size := hz.lt
  clear hb2 hz hscn c0 c1
  go_wp2_with fail
  refine (HV.out _ HB2.out).mono ?_
  rintro e w3 ⟨rfl, hb3⟩
  have HB3 := Lib.hid (HB2.out.trans (hb3.mono HB2.out.size))
  have hz : Blk w3 w.heap.size 73 #[.int .i64 0, .int .i64 0, .string ⟨#[]⟩, .int .i64 0] := HZ2.out.below hb3 hsz2
  have d1 : w3.cell? ⟨b, 1, none⟩ = some (.int .i64 p) := (Blk.below HS2.out hb3 (by omega)).cell 1
  have HZ := Lib.hid hz
  obtain ⟨z0, z1, z2, z3, y0, y1, y2, y3⟩ := blk33 hz
  clear hz hb3
  have hE' : ((E : Int) != 0) = true := by simp; omega
  clear hE
  go_wp2_with fail
  obtain ⟨f0, f1, f2, f3, _, _, _, _⟩ := blk33 (set4 HZ.out (.int .i64 0) (.int .i64 0) (.string ⟨#[]⟩) (.int .i64 0))
  refine bodyPost_ret (v := .tuple #[wv 0 0 ⟨#[]⟩ 0, .int .i64 0, .int .i64 E]) (by simp [results, Tryz.results139, go_sem, wv, f0, f1, f2, f3]) rfl ⟨rfl, ?_⟩
  exact below_set4 HB3.out (Nat.le_refl _) _ _ _ _
set_option maxRecDepth 100000 in
set_option maxHeartbeats 1000000 in
theorem lit_no {w : World} {b p : Nat} {s : ByteArray} (h : Scn w b s p) (hp : p < s.size) (h1 : s[p].toNat ≠ 34) (h2 : s[p].toNat ≠ 39) :
    Calls Tryz.prog 140 #[.pointer (some ⟨b, 0, none⟩)] w (RdP w (wv 0 0 ⟨#[]⟩ 0) 0 0) := by
  have hA : ∀ o, Scn (w.alloc o) b s p := fun o => Blk.alloc h o
  have HA := Lib.hid hA
  have c0 : ∀ o, (w.alloc o).cell? ⟨b, 0, none⟩ = some (.string s) := fun o => (hA o).cell 0
  have c1 : ∀ o, (w.alloc o).cell? ⟨b, 1, none⟩ = some (.int .i64 p) := fun o => (hA o).cell 1
  have p0 : (0 : Int) ≤ (p : Int) := by omega
  have p1 : (p : Int) < (s.size : Int) := by omega
  have hb := Blk.lt h
  clear hA
  obtain ⟨t, ht⟩ : ∃ t : ByteArray, s.extract p s.size = t := ⟨_, rfl⟩
  have htl : t.data.toList = s.data.toList.drop p := by rw [← ht]; exact Lib.extract_to_end s p
  have hts : t.size = s.size - p := by rw [← ht]; simp [ByteArray.size_extract]
  have p2 : (p : Int) ≤ (s.size : Int) := by omega
  have ht0 : 0 < t.size := by omega
  have hcx : t[0] = s[p] := by
    have h1 := drop_at t 0 ht0
    rw [List.drop_zero, htl, drop_at s p hp] at h1
    injection h1 with h1 _
    exact h1.symm
  generalize s[p] = c at *
  have e1 : ((c.toNat : Int) != 34) = true := by simp; omega
  have e2 : ((c.toNat : Int) != 39) = true := by simp; omega
  clear htl hts h h1 h2
  go_enter Tryz.func140, Tryz.ntmps140
  go_wp2_with fail
  go_quiet (fail)
  go_wp2_with fail
  refine bodyPost_ret (v := .tuple #[wv 0 0 ⟨#[]⟩ 0, .int .i64 0, .int .i64 0]) (by simp [results, Tryz.results140, go_sem, wv]) rfl ⟨rfl, ?_⟩
  exact below_set4 (Below.drewN_ ((Below.refl _ _).alloc (Nat.le_refl _) _) _) (Nat.le_refl _) _ _ _ _
set_option maxRecDepth 100000 in
set_option maxHeartbeats 1000000 in
theorem lit_open {w : World} {b p : Nat} {s : ByteArray} (h : Scn w b s p) (hp : p < s.size) (hs : s.size ≤ 1000000) (hq : s[p].toNat = 34 ∨ s[p].toNat = 39) (hl : liL (s.data.toList.drop p) = 0) :
    Calls Tryz.prog 140 #[.pointer (some ⟨b, 0, none⟩)] w (RdP w (wv 0 0 ⟨#[]⟩ 0) 0 21) := by
  have hA : ∀ o, Scn (w.alloc o) b s p := fun o => Blk.alloc h o
  have HA := Lib.hid hA
  have c0 : ∀ o, (w.alloc o).cell? ⟨b, 0, none⟩ = some (.string s) := fun o => (hA o).cell 0
  have c1 : ∀ o, (w.alloc o).cell? ⟨b, 1, none⟩ = some (.int .i64 p) := fun o => (hA o).cell 1
  have p0 : (0 : Int) ≤ (p : Int) := by omega
  have p1 : (p : Int) < (s.size : Int) := by omega
  have hb := Blk.lt h
  clear hA
  obtain ⟨t, ht⟩ : ∃ t : ByteArray, s.extract p s.size = t := ⟨_, rfl⟩
  have htl : t.data.toList = s.data.toList.drop p := by rw [← ht]; exact Lib.extract_to_end s p
  have hts : t.size = s.size - p := by rw [← ht]; simp [ByteArray.size_extract]
  have p2 : (p : Int) ≤ (s.size : Int) := by omega
  have ht0 : 0 < t.size := by omega
  have hcx : t[0] = s[p] := by
    have h1 := drop_at t 0 ht0
    rw [List.drop_zero, htl, drop_at s p hp] at h1
    injection h1 with h1 _
    exact h1.symm
  have hln := fun W => litLen_any t W ht0 (by omega)
  rw [htl, hl] at hln
  have HLN := Lib.hid hln
  generalize s[p] = c at *
  have hcs : ((c.toNat : Int) != 34) = false ∨ (((c.toNat : Int) != 34) = true ∧ ((c.toNat : Int) != 39) = false) := by
    rcases hq with h | h
    · left; simp; omega
    · right; constructor <;> (simp; omega)
  clear htl hts h hq hl hln
  go_enter Tryz.func140, Tryz.ntmps140
  go_wp2_with fail
  go_quiet (fail)
  go_upto_region 2 with fail
  go_cut [23] (fun v wx => v = .bool false ∧ (w.alloc Z33).drewN nq = wx)
  case first =>
    rcases hcs with d | ⟨d, d'⟩
    all_goals
      go_wp2_with fail
      go_meet
      exact ⟨rfl, rfl⟩
  case rest =>
    obtain ⟨rfl, rfl⟩ := hcut
    go_wp2_with fail
    refine (HLN.out _).mono ?_
    rintro e _ ⟨rfl, rfl⟩
    go_wp2_with fail
    refine bodyPost_ret (v := .tuple #[wv 0 0 ⟨#[]⟩ 0, .int .i64 0, .int .i64 21]) (by simp [results, Tryz.results140, go_sem, wv]) rfl ⟨rfl, ?_⟩
    exact below_set4 (Below.drewN_ ((Below.refl _ _).alloc (Nat.le_refl _) _) _) (Nat.le_refl _) _ _ _ _
set_option maxRecDepth 100000 in
set_option maxHeartbeats 1000000 in
theorem lit_bad {w : World} {b p : Nat} {s : ByteArray} (h : Scn w b s p) (hp : p < s.size) (hs : s.size ≤ 1000000) (hq : s[p].toNat = 34 ∨ s[p].toNat = 39) (L : Nat) (hl : liL (s.data.toList.drop p) = L) (hL : 0 < L) (hL2 : L ≤ s.size - p) (hu : unqL ((s.data.toList.drop p).take L) = none) :
    Calls Tryz.prog 140 #[.pointer (some ⟨b, 0, none⟩)] w (RdP w (wv 0 0 ⟨#[]⟩ 0) 0 21) := by
  have hA : ∀ o, Scn (w.alloc o) b s p := fun o => Blk.alloc h o
  have HA := Lib.hid hA
  have c0 : ∀ o, (w.alloc o).cell? ⟨b, 0, none⟩ = some (.string s) := fun o => (hA o).cell 0
  have c1 : ∀ o, (w.alloc o).cell? ⟨b, 1, none⟩ = some (.int .i64 p) := fun o => (hA o).cell 1
  have p0 : (0 : Int) ≤ (p : Int) := by omega
  have p1 : (p : Int) < (s.size : Int) := by omega
  have hb := Blk.lt h
  clear hA
  obtain ⟨t, ht⟩ : ∃ t : ByteArray, s.extract p s.size = t := ⟨_, rfl⟩
  have htl : t.data.toList = s.data.toList.drop p := by rw [← ht]; exact Lib.extract_to_end s p
  have hts : t.size = s.size - p := by rw [← ht]; simp [ByteArray.size_extract]
  have p2 : (p : Int) ≤ (s.size : Int) := by omega
  have ht0 : 0 < t.size := by omega
  have hcx : t[0] = s[p] := by
    have h1 := drop_at t 0 ht0
    rw [List.drop_zero, htl, drop_at s p hp] at h1
    injection h1 with h1 _
    exact h1.symm
  have hln := fun W => litLen_any t W ht0 (by omega)
  rw [htl, hl] at hln
  obtain ⟨u, hue⟩ : ∃ u : ByteArray, t.extract 0 L = u := ⟨_, rfl⟩
  have hul : u.data.toList = (s.data.toList.drop p).take L := by rw [← hue, extract_mid, htl]; simp
  have hus : u.size ≤ 1000000 := by rw [← hue]; simp [ByteArray.size_extract]; omega
  have hun := fun W => unquote_any u W hus
  rw [hul, hu] at hun
  have HUN := Lib.hid hun
  have l0 : (0 : Int) ≤ (L : Int) := by omega
  have l1 : (L : Int) ≤ (t.size : Int) := by omega
  have l2 : ((L : Int) == 0) = false := by simp; omega
  have HLN := Lib.hid hln
  generalize s[p] = c at *
  have hcs : ((c.toNat : Int) != 34) = false ∨ (((c.toNat : Int) != 34) = true ∧ ((c.toNat : Int) != 39) = false) := by
    rcases hq with h | h
    · left; simp; omega
    · right; constructor <;> (simp; omega)
  clear htl hts h hq hl hln hul hun hu hL
  go_enter Tryz.func140, Tryz.ntmps140
  go_wp2_with fail
  go_quiet (fail)
  go_upto_region 2 with fail
  go_cut [23] (fun v wx => v = .bool false ∧ (w.alloc Z33).drewN nq = wx)
  case first =>
    rcases hcs with d | ⟨d, d'⟩
    all_goals
      go_wp2_with fail
      go_meet
      exact ⟨rfl, rfl⟩
  case rest =>
    obtain ⟨rfl, rfl⟩ := hcut
    go_wp2_with fail
    refine (HLN.out _).mono ?_
    rintro e _ ⟨rfl, rfl⟩
    go_wp2_with fail
    refine (HUN.out _).mono ?_
    rintro e w3 ⟨v3, rfl, ho3, hb3⟩
    have HB3 := Lib.hid (show Below w.heap.size w w3 from (Below.drewN_ ((Below.refl w.heap.size w).alloc (Nat.le_refl _) Z33) nq).trans (hb3.mono (by simp)))
    have hz : Blk w3 w.heap.size 73 #[.int .i64 0, .int .i64 0, .string ⟨#[]⟩, .int .i64 0] := Blk.below (w := (w.alloc Z33).drewN nq) (Blk.new w 73 _) hb3 (by simp)
    have HZ := Lib.hid hz
    obtain ⟨z0, z1, z2, z3, y0, y1, y2, y3⟩ := blk33 hz
    unfold ansR
    clear hz hb3 ho3
    go_wp2_with fail
    obtain ⟨f0, f1, f2, f3, _, _, _, _⟩ := blk33 (set4 HZ.out (.int .i64 0) (.int .i64 0) (.string ⟨#[]⟩) (.int .i64 0))
    refine bodyPost_ret (v := .tuple #[wv 0 0 ⟨#[]⟩ 0, .int .i64 0, .int .i64 21]) (by simp [results, Tryz.results140, go_sem, wv, f0, f1, f2, f3]) rfl ⟨rfl, ?_⟩
    exact below_set4 HB3.out (Nat.le_refl _) _ _ _ _
set_option maxRecDepth 100000 in
set_option maxHeartbeats 1000000 in
theorem lit_ok {w : World} {b p : Nat} {s : ByteArray} (h : Scn w b s p) (hp : p < s.size) (hs : s.size ≤ 1000000) (hq : s[p].toNat = 34 ∨ s[p].toNat = 39) (L : Nat) (hl : liL (s.data.toList.drop p) = L) (hL : 0 < L) (hL2 : L ≤ s.size - p) (v : List UInt8) (hu : unqL ((s.data.toList.drop p).take L) = some v) :
    Calls Tryz.prog 140 #[.pointer (some ⟨b, 0, none⟩)] w (RdP w (wv 3 p ⟨v.toArray⟩ 0) L 0) := by
  have hA : ∀ o, Scn (w.alloc o) b s p := fun o => Blk.alloc h o
  have HA := Lib.hid hA
  have c0 : ∀ o, (w.alloc o).cell? ⟨b, 0, none⟩ = some (.string s) := fun o => (hA o).cell 0
  have c1 : ∀ o, (w.alloc o).cell? ⟨b, 1, none⟩ = some (.int .i64 p) := fun o => (hA o).cell 1
  have p0 : (0 : Int) ≤ (p : Int) := by omega
  have p1 : (p : Int) < (s.size : Int) := by omega
  have hb := Blk.lt h
  clear hA
  obtain ⟨t, ht⟩ : ∃ t : ByteArray, s.extract p s.size = t := ⟨_, rfl⟩
  have htl : t.data.toList = s.data.toList.drop p := by rw [← ht]; exact Lib.extract_to_end s p
  have hts : t.size = s.size - p := by rw [← ht]; simp [ByteArray.size_extract]
  have p2 : (p : Int) ≤ (s.size : Int) := by omega
  have ht0 : 0 < t.size := by omega
  have hcx : t[0] = s[p] := by
    have h1 := drop_at t 0 ht0
    rw [List.drop_zero, htl, drop_at s p hp] at h1
    injection h1 with h1 _
    exact h1.symm
  have hln := fun W => litLen_any t W ht0 (by omega)
  rw [htl, hl] at hln
  obtain ⟨u, hue⟩ : ∃ u : ByteArray, t.extract 0 L = u := ⟨_, rfl⟩
  have hul : u.data.toList = (s.data.toList.drop p).take L := by rw [← hue, extract_mid, htl]; simp
  have hus : u.size ≤ 1000000 := by rw [← hue]; simp [ByteArray.size_extract]; omega
  have hun := fun W => unquote_any u W hus
  rw [hul, hu] at hun
  have HUN := Lib.hid hun
  have l0 : (0 : Int) ≤ (L : Int) := by omega
  have l1 : (L : Int) ≤ (t.size : Int) := by omega
  have l2 : ((L : Int) == 0) = false := by simp; omega
  have HLN := Lib.hid hln
  generalize s[p] = c at *
  have hcs : ((c.toNat : Int) != 34) = false ∨ (((c.toNat : Int) != 34) = true ∧ ((c.toNat : Int) != 39) = false) := by
    rcases hq with h | h
    · left; simp; omega
    · right; constructor <;> (simp; omega)
  clear htl hts h hq hl hln hul hun hu hL
  go_enter Tryz.func140, Tryz.ntmps140
  go_wp2_with fail
  go_quiet (fail)
  go_upto_region 2 with fail
  go_cut [23] (fun v wx => v = .bool false ∧ (w.alloc Z33).drewN nq = wx)
  case first =>
    rcases hcs with d | ⟨d, d'⟩
    all_goals
      go_wp2_with fail
      go_meet
      exact ⟨rfl, rfl⟩
  case rest =>
    obtain ⟨rfl, rfl⟩ := hcut
    go_wp2_with fail
    refine (HLN.out _).mono ?_
    rintro e _ ⟨rfl, rfl⟩
    go_wp2_with fail
    refine (HUN.out _).mono ?_
    rintro e w3 ⟨v3, rfl, ho3, hb3⟩
    have HB3 := Lib.hid (show Below w.heap.size w w3 from (Below.drewN_ ((Below.refl w.heap.size w).alloc (Nat.le_refl _) Z33) nq).trans (hb3.mono (by simp)))
    have hz : Blk w3 w.heap.size 73 #[.int .i64 0, .int .i64 0, .string ⟨#[]⟩, .int .i64 0] := Blk.below (w := (w.alloc Z33).drewN nq) (Blk.new w 73 _) hb3 (by simp)
    have d1 : w3.cell? ⟨b, 1, none⟩ = some (.int .i64 p) := (Blk.below (w := (w.alloc Z33).drewN nq) (HA.out _) hb3 (by simp; omega)).cell 1
    have HZ := Lib.hid hz
    obtain ⟨z0, z1, z2, z3, y0, y1, y2, y3⟩ := blk33 hz
    obtain ⟨A3, c3, rfl, hB3⟩ := ho3.bs
    have hcv : (convert 165 9 (.slice A3 v.length c3)).run Tryz.prog w3 = .ok (.string ⟨v.toArray⟩) w3 := hB3.convert (P := Tryz.prog) 165 5 9 Tryz.underlying165 Tryz.underlying5 Tryz.underlying9
    have hcv' : (convert 165 9 (.slice A3 v.length c3)).run Tryz.prog w3.drew = .ok (.string ⟨v.toArray⟩) w3.drew := hB3.drew.convert (P := Tryz.prog) 165 5 9 Tryz.underlying165 Tryz.underlying5 Tryz.underlying9
    generalize (⟨v.toArray⟩ : ByteArray) = vb at *
    unfold ansR
    clear hz hb3 ho3 hB3
    go_wp2_with fail
    go_region_with (fail)
    all_goals
      go_wp2_with fail
      obtain ⟨f0, f1, f2, f3, _, _, _, _⟩ := blk33 (set4 HZ.out (.int .i64 3) (.int .i64 p) (.string vb) (.int .i64 0))
      refine bodyPost_ret (v := .tuple #[wv 3 p vb 0, .int .i64 L, .int .i64 0]) (by simp [results, Tryz.results140, go_sem, wv, f0, f1, f2, f3]) rfl ⟨rfl, ?_⟩
      exact (below_set4 HB3.out (Nat.le_refl _) _ _ _ _).drew
end
section
open Go.RowKit
set_option linter.unusedVariables false
set_option linter.unusedSimpArgs false

structure Tk where
  e : Nat
  k : Nat
  t : ByteArray
  n : Int
  z : Nat
def quB (c : UInt8) : Bool := c == 34 || c == 39
/-- The kind of the token that a byte begins: 4: of none. -/
def clN (c : UInt8) : Nat := if ltZ c.toNat then 0 else if dgZ c.toNat then 1 else if quB c then 2 else if sgB c then 3 else 4
theorem cl_apart (c : UInt8) : (decide (clN c = 0) == ltZ c.toNat) = true ∧ (decide (clN c = 1) == dgZ c.toNat) = true ∧ (decide (clN c = 2) == quB c) = true ∧ (decide (clN c = 3) == sgB c) = true :=
  ⟨fin8 (p := fun c => decide (clN c = 0) == ltZ c.toNat) (by decide +kernel) c, fin8 (p := fun c => decide (clN c = 1) == dgZ c.toNat) (by decide +kernel) c,
   fin8 (p := fun c => decide (clN c = 2) == quB c) (by decide +kernel) c, fin8 (p := fun c => decide (clN c = 3) == sgB c) (by decide +kernel) c⟩
/-- The token at a place; its error. -/
def tkR (s : ByteArray) (p : Nat) (c : UInt8) : Tk :=
  let l := s.data.toList.drop p
  let t := s.extract p (p + (runL l).length)
  if clN c = 0 then (if identL (runL l) then ⟨0, 1, t, 0, (runL l).length⟩ else ⟨30, 0, ⟨#[]⟩, 0, 0⟩)
  else if clN c = 1 then (if (vlR t).2 = 0 then ⟨0, 2, t, (vlR t).1, (runL l).length⟩ else ⟨(vlR t).2, 0, ⟨#[]⟩, 0, 0⟩)
  else if clN c = 2 then (if liL l = 0 then ⟨21, 0, ⟨#[]⟩, 0, 0⟩ else match unqL (l.take (liL l)) with | none => ⟨21, 0, ⟨#[]⟩, 0, 0⟩ | some v => ⟨0, 3, ⟨v.toArray⟩, 0, liL l⟩)
  else if clN c = 3 then ⟨0, 4, s.extract p (p + 1), 0, 1⟩
  else ⟨30, 0, ⟨#[]⟩, 0, 0⟩
/-- What reader j answers. -/
def rdA (s : ByteArray) (p : Nat) (c : UInt8) (j : Nat) : Value × Nat × Nat :=
  if clN c = j then (if (tkR s p c).e = 0 then (wv (tkR s p c).k p (tkR s p c).t (tkR s p c).n, (tkR s p c).z, 0) else (wv 0 0 ⟨#[]⟩ 0, 0, (tkR s p c).e)) else (wv 0 0 ⟨#[]⟩ 0, 0, 0)

theorem read0 {w : World} {b p : Nat} {s : ByteArray} (h : Scn w b s p) (hp : p < s.size) (hs : s.size ≤ 1000000) (hE : Env w) :
    Calls Tryz.prog 138 #[.pointer (some ⟨b, 0, none⟩)] w (RdP w (rdA s p s[p] 0).1 (rdA s p s[p] 0).2.1 (rdA s p s[p] 0).2.2) := by
  have ha := (cl_apart s[p]).1
  unfold rdA
  by_cases hc : clN s[p] = 0
  · rw [if_pos hc]
    have hy : ltZ (s[p].toNat : Nat) = true := by rw [hc] at ha; simpa using ha
    have ht : tkR s p s[p] = if identL (runL (s.data.toList.drop p)) then ⟨0, 1, s.extract p (p + (runL (s.data.toList.drop p)).length), 0, (runL (s.data.toList.drop p)).length⟩ else ⟨30, 0, ⟨#[]⟩, 0, 0⟩ := by unfold tkR; rw [if_pos hc]
    cases hi : identL (runL (s.data.toList.drop p))
    · rw [hi] at ht
      rw [ht]
      exact ident_bad h hp hs hy hi
    · rw [hi] at ht
      rw [ht]
      exact ident_ok h hp hs hy hi
  · rw [if_neg hc]
    have hn : ltZ (s[p].toNat : Nat) = false := by rw [decide_eq_false hc] at ha; simpa using ha
    exact ident_no h hp hn
theorem ext_pos {s : ByteArray} {p : Nat} (hp : p < s.size) (h : wdZ (s[p].toNat : Nat) = true) : 0 < (runL (s.data.toList.drop p)).length := by
  rw [drop_at s p hp, runL_cons, if_pos h]
  simp
theorem read1 {w : World} {b p : Nat} {s : ByteArray} (h : Scn w b s p) (hp : p < s.size) (hs : s.size ≤ 1000000) (hE : Env w) :
    Calls Tryz.prog 139 #[.pointer (some ⟨b, 0, none⟩)] w (RdP w (rdA s p s[p] 1).1 (rdA s p s[p] 1).2.1 (rdA s p s[p] 1).2.2) := by
  have ha := (cl_apart s[p]).2.1
  unfold rdA
  by_cases hc : clN s[p] = 1
  · rw [if_pos hc]
    have hy : dgZ (s[p].toNat : Nat) = true := by rw [hc] at ha; simpa using ha
    obtain ⟨t, htt⟩ : ∃ t, s.extract p (p + (runL (s.data.toList.drop p)).length) = t := ⟨_, rfl⟩
    have ht : tkR s p s[p] = if (vlR t).2 = 0 then ⟨0, 2, t, (vlR t).1, (runL (s.data.toList.drop p)).length⟩ else ⟨(vlR t).2, 0, ⟨#[]⟩, 0, 0⟩ := by
      unfold tkR
      rw [if_neg (by omega), if_pos hc, htt]
    have hrl := runL_len (s.data.toList.drop p)
    have hpos := ext_pos hp (show wdZ (s[p].toNat : Nat) = true by unfold wdZ; rw [hy]; simp)
    have hts : t.size = (runL (s.data.toList.drop p)).length := by
      have := ext_run s p
      rw [htt] at this
      rw [← this]; simp
    have hv := fun W (hb : Below w.heap.size w W) => valueOf_any t W (hE.below hb) (by omega) (by simp at hrl; omega)
    cases hz : (vlR t).2 with
    | zero =>
      rw [hz, if_pos rfl] at ht
      rw [ht]
      rw [hz] at hv
      exact number_ok h hp hs hy t htt (vlR t).1 hv
    | succ q =>
      rw [hz, if_neg (by omega)] at ht
      rw [ht]
      rw [hz] at hv
      exact number_bad h hp hs hy t htt (vlR t).1 (q + 1) (by omega) hv
  · rw [if_neg hc]
    have hn : dgZ (s[p].toNat : Nat) = false := by rw [decide_eq_false hc] at ha; simpa using ha
    exact number_no h hp hn
theorem read2 {w : World} {b p : Nat} {s : ByteArray} (h : Scn w b s p) (hp : p < s.size) (hs : s.size ≤ 1000000) (hE : Env w) :
    Calls Tryz.prog 140 #[.pointer (some ⟨b, 0, none⟩)] w (RdP w (rdA s p s[p] 2).1 (rdA s p s[p] 2).2.1 (rdA s p s[p] 2).2.2) := by
  have ha := (cl_apart s[p]).2.2.1
  unfold rdA
  by_cases hc : clN s[p] = 2
  · rw [if_pos hc]
    have hy : quB s[p] = true := by rw [hc] at ha; simpa using ha
    have hq : s[p].toNat = 34 ∨ s[p].toNat = 39 := by
      unfold quB at hy
      simp only [Bool.or_eq_true, beq_iff_eq] at hy
      rcases hy with h | h <;> rw [h] <;> simp
    have ht : tkR s p s[p] = if liL (s.data.toList.drop p) = 0 then ⟨21, 0, ⟨#[]⟩, 0, 0⟩ else match unqL ((s.data.toList.drop p).take (liL (s.data.toList.drop p))) with | none => ⟨21, 0, ⟨#[]⟩, 0, 0⟩ | some v => ⟨0, 3, ⟨v.toArray⟩, 0, liL (s.data.toList.drop p)⟩ := by
      unfold tkR
      rw [if_neg (by omega), if_neg (by omega), if_pos hc]
    have hli : liL (s.data.toList.drop p) ≤ s.size - p := by
      rw [drop_at s p hp]
      show liP s[p] 1 (s.data.toList.drop (p + 1)) ≤ _
      rcases liF_le s[p] (s.data.toList.drop (p + 1)).length 1 (s.data.toList.drop (p + 1)) with h | ⟨_, h⟩
      · unfold liP; omega
      · unfold liP
        have : (s.data.toList.drop (p + 1)).length = s.size - (p + 1) := by simp
        omega
    by_cases h0 : liL (s.data.toList.drop p) = 0
    · rw [if_pos h0] at ht
      rw [ht]
      exact lit_open h hp hs hq h0
    · rw [if_neg h0] at ht
      cases hu : unqL ((s.data.toList.drop p).take (liL (s.data.toList.drop p))) with
      | none =>
        rw [hu] at ht
        rw [ht]
        exact lit_bad h hp hs hq _ rfl (by omega) hli hu
      | some v =>
        rw [hu] at ht
        rw [ht]
        exact lit_ok h hp hs hq _ rfl (by omega) hli v hu
  · rw [if_neg hc]
    have hn : quB s[p] = false := by rw [decide_eq_false hc] at ha; simpa using ha
    have hq : s[p].toNat ≠ 34 ∧ s[p].toNat ≠ 39 := by
      unfold quB at hn
      simp only [Bool.or_eq_false_iff, beq_eq_false_iff_ne, ne_eq] at hn
      exact ⟨fun h => hn.1 (UInt8.toNat_inj.1 h), fun h => hn.2 (UInt8.toNat_inj.1 h)⟩
    exact lit_no h hp hq.1 hq.2
theorem read3 {w : World} {b p : Nat} {s : ByteArray} (h : Scn w b s p) (hp : p < s.size) (hs : s.size ≤ 1000000) (hE : Env w) :
    Calls Tryz.prog 141 #[.pointer (some ⟨b, 0, none⟩)] w (RdP w (rdA s p s[p] 3).1 (rdA s p s[p] 3).2.1 (rdA s p s[p] 3).2.2) := by
  have ha := (cl_apart s[p]).2.2.2
  unfold rdA
  by_cases hc : clN s[p] = 3
  · rw [if_pos hc]
    have hy : sgB s[p] = true := by rw [hc] at ha; simpa using ha
    have ht : tkR s p s[p] = ⟨0, 4, s.extract p (p + 1), 0, 1⟩ := by
      unfold tkR
      rw [if_neg (by omega), if_neg (by omega), if_neg (by omega), if_pos hc]
    rw [ht]
    exact sign_ok h hp hs hy
  · rw [if_neg hc]
    have hn : sgB s[p] = false := by rw [decide_eq_false hc] at ha; simpa using ha
    exact sign_no h hp hn
/-- A token has bytes, and lies in the text. -/
theorem tk_size {s : ByteArray} {p : Nat} (hp : p < s.size) (h : (tkR s p s[p]).e = 0) : 1 ≤ (tkR s p s[p]).z ∧ p + (tkR s p s[p]).z ≤ s.size := by
  have hrl := runL_len (s.data.toList.drop p)
  have ha := cl_apart s[p]
  have hl : (s.data.toList.drop p).length = s.size - p := by simp
  unfold tkR at h ⊢
  by_cases h0 : clN s[p] = 0
  · simp only [if_pos h0] at h ⊢
    have hy : ltZ (s[p].toNat : Nat) = true := by have := ha.1; rw [h0] at this; simpa using this
    have hpos := ext_pos hp (show wdZ (s[p].toNat : Nat) = true by unfold wdZ; rw [hy]; rfl)
    split at h
    · rename_i hi
      rw [if_pos hi]
      exact ⟨hpos, by simp only; omega⟩
    · cases h
  · simp only [if_neg h0] at h ⊢
    by_cases h1 : clN s[p] = 1
    · simp only [if_pos h1] at h ⊢
      have hy : dgZ (s[p].toNat : Nat) = true := by have := ha.2.1; rw [h1] at this; simpa using this
      have hpos := ext_pos hp (show wdZ (s[p].toNat : Nat) = true by unfold wdZ; rw [hy]; simp)
      split at h
      · rename_i hi
        rw [if_pos hi]
        exact ⟨hpos, by simp only; omega⟩
      · rename_i hi
        exact absurd h hi
    · simp only [if_neg h1] at h ⊢
      by_cases h2 : clN s[p] = 2
      · simp only [if_pos h2] at h ⊢
        split at h
        · cases h
        · rename_i hi
          rw [if_neg hi]
          split at h
          · cases h
          · rename_i v hv
            refine ⟨by simp only; omega, ?_⟩
            rw [drop_at s p hp]
            show p + liP s[p] 1 (s.data.toList.drop (p + 1)) ≤ _
            rcases liF_le s[p] (s.data.toList.drop (p + 1)).length 1 (s.data.toList.drop (p + 1)) with h | ⟨_, h⟩
            · unfold liP; omega
            · unfold liP
              have : (s.data.toList.drop (p + 1)).length = s.size - (p + 1) := by simp
              omega
      · simp only [if_neg h2] at h ⊢
        by_cases h3 : clN s[p] = 3
        · simp only [if_pos h3] at h ⊢
          exact ⟨Nat.le_refl _, by omega⟩
        · simp only [if_neg h3] at h
          cases h
end
section
open Go.RowKit
set_option linter.unusedVariables false
set_option linter.unusedSimpArgs false

theorem Tryz.info73 : (Tryz.prog.info? 73).map (fun i => (i.zero, i.size, i.bytes)) = some (some (.agg #[.int .i64 0, .int .i64 0, .string ⟨#[]⟩, .int .i64 0]), 4, 40) := by kernel_rfl
/-- v is a list of words of the call's own. -/
def OwnW (w : World) (base : Nat) (v : Value) (l : List Wd) : Prop := w.ownsRow base 73 4 v l.length (wcs l)
theorem OwnW.nil (w : World) (base : Nat) : OwnW w base (.slice none 0 0) [] := ⟨rfl, .inl ⟨rfl, rfl⟩⟩
theorem OwnW.kept {w w' : World} {base : Nat} {v : Value} {l : List Wd} (h : OwnW w base v l) (k : ∀ g, v.ownBlock = some g → w'.heap[g]? = w.heap[g]?) : OwnW w' base v l := by
  refine ⟨h.1, ?_⟩
  rcases h.2 with h | ⟨g, cap, cur, rfl, hb, hh, r⟩
  · exact .inl h
  · exact .inr ⟨g, cap, cur, rfl, hb, by rw [k g rfl]; exact hh, r⟩
theorem OwnW.lt {w : World} {base : Nat} {v : Value} {l : List Wd} (h : OwnW w base v l) {g : Nat} (hg : v.ownBlock = some g) : base ≤ g ∧ g < w.heap.size := by
  rcases h.2 with ⟨rfl, _⟩ | ⟨g', cap, cur, rfl, hb, hh, r⟩
  · cases hg
  · have : g' = g := by simpa [Value.ownBlock] using hg
    subst this
    refine ⟨hb, ?_⟩
    rcases Nat.lt_or_ge g' w.heap.size with hlt | hge
    · exact hlt
    · rw [Array.getElem?_eq_none hge] at hh; cases hh
theorem OwnW.below {w w' : World} {base : Nat} {v : Value} {l : List Wd} (h : OwnW w base v l) (hb : Below w.heap.size w w') : OwnW w' base v l := h.kept fun g hg => hb.block g (h.lt hg).2
theorem OwnW.drew {w : World} {base : Nat} {v : Value} {l : List Wd} (h : OwnW w base v l) : OwnW w.drew base v l := h
theorem OwnW.val {w : World} {base : Nat} {v : Value} {l : List Wd} (h : OwnW w base v l) : ∃ A c, v = .slice A l.length c ∧ l.length ≤ c ∧ c ≤ 9223372036854775807 ∧ (0 < l.length → ∃ g, A = some ⟨g, 0, none⟩ ∧ ∀ j, j < (wcs l).length → w.cell? ⟨g, j, none⟩ = (wcs l)[j]?) := by
  rcases h.2 with ⟨rfl, h0⟩ | ⟨g, cap, cur, rfl, hb, hh, hnc, hm, hsz, ht⟩
  · exact ⟨none, 0, by rw [h0], by omega, by omega, by intro h; omega⟩
  · refine ⟨_, _, rfl, hnc, by unfold maxLen at hm; omega, fun _ => ⟨g, rfl, fun j hj => ?_⟩⟩
    rw [cell_of_row w g j cur 73 (0, 0) hh]
    have h1 : (cur.toList.take (l.length * 4))[j]? = (wcs l)[j]? := by rw [ht]
    have h2 : (wcs l).length = l.length * 4 := by rw [← ht, List.length_take]; have := hsz; simp at *; omega
    rw [List.getElem?_take_of_lt (by omega)] at h1
    rw [← Array.getElem?_toList, h1]

theorem run_append_w {P : Program} {w : World} {base B : Nat} {v : Value} {xs : List Wd} (t ty : TypeId) (i : TypeInfo)
    (ht : P.underlying t = some (.slice 73)) (hi : P.info? 73 = some i) (hz : i.zero = some (.agg #[.int .i64 0, .int .i64 0, .string ⟨#[]⟩, .int .i64 0])) (hsize : i.size = 4) (hby : i.bytes = 40)
    (hown : OwnW w base v xs) (x : Wd) (hB : Blk w B 73 #[.int .i64 x.k, .int .i64 x.p, .string x.t, .int .i64 x.n]) (hlen : xs.length ≤ 1073741824) (hbase : base ≤ w.heap.size) :
    ∃ v' w', (Builtin.append_ #[t, t] ty #[v, .slice (some ⟨B, 0, none⟩) 1 1]).run P w = .ok v' w' ∧ OwnW w' base v' (xs ++ [x]) ∧ Grew w w' v v' := by
  obtain ⟨v', w', hrun, h2, h3, _, h5⟩ := run_append_own_at (P := P) w base t ty 73 i _ 4 40 ht hi hz hsize hby rfl (by omega) v xs.length (wcs xs) hown ⟨B, 0, none⟩ 1 1 x.cs rfl (World.news_of_block hB) (by intro u hu; simp only [Wd.cs, List.mem_cons, List.mem_nil_iff, or_false] at hu; rcases hu with rfl | rfl | rfl | rfl <;> rfl) (by unfold maxLen; omega) (by omega) hbase
  refine ⟨v', w', hrun, ?_, ⟨h3, h5.imp id fun e => ⟨_, e, Nat.le_refl _⟩⟩⟩
  unfold OwnW
  rw [wcs_snoc, List.length_append]
  exact h2
end
end Go.Proofs.YthmdaejlopjjoaaGreatDoor
