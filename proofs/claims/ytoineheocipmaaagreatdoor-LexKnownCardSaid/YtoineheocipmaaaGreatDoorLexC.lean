/-
  lex: identifiers, signs.
-/
import Derived.Test.YtoineheocipmaaaGreatDoorLexB
import Derived.Deep.RegionWith
namespace Go.Proofs.YtoineheocipmaaaGreatDoor
open Go.RowKit
set_option linter.unusedVariables false
set_option linter.unusedSimpArgs false

/-- A word's value. -/
def wv (k : Nat) (p : Nat) (t : ByteArray) (n : Int) : Value := .agg #[.int .i64 k, .int .i64 p, .string t, .int .i64 n]
def RdP (w : World) (v : Value) (size err : Nat) (e : Ending) (w' : World) : Prop := e = .returned (.tuple #[v, .int .i64 size, .int .i64 err]) ∧ Below w.heap.size w w'
theorem same_of {P : Program} {f : FuncId} {args : Array Value} {w : World} {v : Value} (h : Calls P f args w fun e w' => e = .returned v ∧ w = w') : Calls P f args w fun e w' => e = .returned v ∧ w' = w := h.mono fun _ _ ⟨a, b⟩ => ⟨a, b.symm⟩
abbrev Z33 : Obj := .cells #[.int .i64 0, .int .i64 0, .string ⟨#[]⟩, .int .i64 0] 33

theorem extract_mid (s : ByteArray) (a b : Nat) : (s.extract a b).data.toList = (s.data.toList.drop a).take (b - a) := by
  simp [ByteArray.data_extract, Array.toList_extract, List.extract_eq_take_drop]
theorem ext_run (s : ByteArray) (p : Nat) : (s.extract p (p + (runL (s.data.toList.drop p)).length)).data.toList = runL (s.data.toList.drop p) := by
  have h1 : (s.extract p (p + (runL (s.data.toList.drop p)).length)).data.toList = (s.data.toList.drop p).take (runL (s.data.toList.drop p)).length := by
    rw [extract_mid]
    congr 1
    omega
  rw [h1]
  exact (List.prefix_iff_eq_take.1 (List.takeWhile_prefix _)).symm
theorem below_set4 {w W : World} {g : Nat} (h : Below w.heap.size w W) (hg : w.heap.size ≤ g) (a b c d : Value) : Below w.heap.size w ((((W.setCell ⟨g, 0, none⟩ a).setCell ⟨g, 1, none⟩ b).setCell ⟨g, 2, none⟩ c).setCell ⟨g, 3, none⟩ d) :=
  (((h.setCell hg _).setCell hg _).setCell hg _).setCell hg _
theorem blk33 {w : World} {g : Nat} {a b c d : Value} (h : Blk w g 33 #[a, b, c, d]) :
    w.cell? ⟨g, 0, none⟩ = some a ∧ w.cell? ⟨g, 1, none⟩ = some b ∧ w.cell? ⟨g, 2, none⟩ = some c ∧ w.cell? ⟨g, 3, none⟩ = some d ∧ w.frozen? ⟨g, 0, none⟩ = false ∧ w.frozen? ⟨g, 1, none⟩ = false ∧ w.frozen? ⟨g, 2, none⟩ = false ∧ w.frozen? ⟨g, 3, none⟩ = false :=
  ⟨h.cell 0, h.cell 1, h.cell 2, h.cell 3, h.frozen 0, h.frozen 1, h.frozen 2, h.frozen 3⟩
theorem set4 {w : World} {g : Nat} {a b c d : Value} (h : Blk w g 33 #[a, b, c, d]) (v0 v1 v2 v3 : Value) : Blk ((((w.setCell ⟨g, 0, none⟩ v0).setCell ⟨g, 1, none⟩ v1).setCell ⟨g, 2, none⟩ v2).setCell ⟨g, 3, none⟩ v3) g 33 #[v0, v1, v2, v3] :=
  (((Blk.set_ h 0 v0).set_ 1 v1).set_ 2 v2).set_ 3 v3
set_option maxRecDepth 100000 in
set_option maxHeartbeats 1000000 in
theorem ident_no {w : World} {b p : Nat} {s : ByteArray} (h : Scn w b s p) (hp : p < s.size) (hn : ltZ (s[p].toNat : Nat) = false) :
    Calls Tryz.prog 85 #[.pointer (some ⟨b, 0, none⟩)] w (RdP w (wv 0 0 ⟨#[]⟩ 0) 0 0) := by
  have hA : ∀ o, Scn (w.alloc o) b s p := fun o => Blk.alloc h o
  have HA := Lib.hid hA
  have c0 : ∀ o, (w.alloc o).cell? ⟨b, 0, none⟩ = some (.string s) := fun o => (hA o).cell 0
  have c1 : ∀ o, (w.alloc o).cell? ⟨b, 1, none⟩ = some (.int .i64 p) := fun o => (hA o).cell 1
  have p0 : (0 : Int) ≤ (p : Int) := by omega
  have p1 : (p : Int) < (s.size : Int) := by omega
  have hb := Blk.lt h
  clear hA
  have hs := fun W => same_of (startsIdent_any (s[p].toNat : Nat) W)
  rw [hn] at hs
  generalize hx : s[p] = c at *
  have HS := Lib.hid hs
  clear hs hn h
  go_enter Tryz.func85, Tryz.ntmps85
  go_wp2_with fail
  go_quiet ((go_at_call 148; exact Calls.quiet_of_same (HS.out _)))
  go_wp2_with fail
  refine bodyPost_ret (v := .tuple #[wv 0 0 ⟨#[]⟩ 0, .int .i64 0, .int .i64 0]) (by simp [results, Tryz.results85, go_sem, wv]) rfl ⟨rfl, ?_⟩
  exact below_set4 (Below.drewN_ ((Below.refl _ _).alloc (Nat.le_refl _) _) _) (Nat.le_refl _) _ _ _ _
set_option maxRecDepth 100000 in
set_option maxHeartbeats 1000000 in
theorem ident_bad {w : World} {b p : Nat} {s : ByteArray} (h : Scn w b s p) (hp : p < s.size) (hs : s.size ≤ 1000000) (hy : ltZ (s[p].toNat : Nat) = true) (hn : identL (runL (s.data.toList.drop p)) = false) :
    Calls Tryz.prog 85 #[.pointer (some ⟨b, 0, none⟩)] w (RdP w (wv 0 0 ⟨#[]⟩ 0) 0 30) := by
  have hA : ∀ o, Scn (w.alloc o) b s p := fun o => Blk.alloc h o
  have HA := Lib.hid hA
  have c0 : ∀ o, (w.alloc o).cell? ⟨b, 0, none⟩ = some (.string s) := fun o => (hA o).cell 0
  have c1 : ∀ o, (w.alloc o).cell? ⟨b, 1, none⟩ = some (.int .i64 p) := fun o => (hA o).cell 1
  have p0 : (0 : Int) ≤ (p : Int) := by omega
  have p1 : (p : Int) < (s.size : Int) := by omega
  have hb := Blk.lt h
  clear hA
  have hss := fun W => same_of (startsIdent_any (s[p].toNat : Nat) W)
  rw [hy] at hss
  generalize hx : s[p] = c at *
  have HS := Lib.hid hss
  have hrl := runL_len (s.data.toList.drop p)
  have hrun := fun W (hW : Scn W b s p) => run_any (w := W) hW (by omega) hs
  have htl : (s.extract p (p + (runL (s.data.toList.drop p)).length)).data.toList = runL (s.data.toList.drop p) := ext_run s p
  obtain ⟨t, ht⟩ : ∃ t, s.extract p (p + (runL (s.data.toList.drop p)).length) = t := ⟨_, rfl⟩
  rw [ht] at htl
  simp only [ht] at hrun
  have hid := fun W => isIdent_any t W (by have h3 : t.data.toList.length = t.size := by simp
                                           rw [htl] at h3; simp at hrl; unfold maxLen; omega)
  rw [htl, hn] at hid
  have HRUN := Lib.hid hrun
  have HID := Lib.hid hid
  clear hss hy hn h hrl hrun hid htl ht
  go_enter Tryz.func85, Tryz.ntmps85
  go_wp2_with fail
  go_quiet ((go_at_call 148; exact Calls.quiet_of_same (HS.out _)))
  go_wp2_with fail
  refine (HRUN.out ((w.alloc Z33).drewN nq) (HA.out _)).mono ?_
  rintro e w2 ⟨rfl, hb2⟩
  have HB2 := Lib.hid (show Below w.heap.size w w2 from (Below.drewN_ ((Below.refl w.heap.size w).alloc (Nat.le_refl _) Z33) nq).trans (hb2.mono (by simp)))
  have hz : Blk w2 w.heap.size 33 #[.int .i64 0, .int .i64 0, .string ⟨#[]⟩, .int .i64 0] := Blk.below (w := (w.alloc Z33).drewN nq) (Blk.new w 33 _) hb2 (by simp)
  obtain ⟨z0, z1, z2, z3, y0, y1, y2, y3⟩ := blk33 hz
  have hscn : Scn w2 b s p := Blk.below (w := (w.alloc Z33).drewN nq) (HA.out _) hb2 (by simp; omega)
  have d0 := hscn.c0
  have d1 := hscn.c1
  have HZ := Lib.hid hz
  clear hb2 hz hscn
  go_wp2_with fail
  refine (HID.out _).mono ?_
  rintro e _ ⟨rfl, rfl⟩
  go_wp2_with fail
  obtain ⟨f0, f1, f2, f3, _, _, _, _⟩ := blk33 (set4 HZ.out (.int .i64 0) (.int .i64 0) (.string ⟨#[]⟩) (.int .i64 0))
  refine bodyPost_ret (v := .tuple #[wv 0 0 ⟨#[]⟩ 0, .int .i64 0, .int .i64 30]) (by simp [results, Tryz.results85, go_sem, wv, f0, f1, f2, f3]) rfl ⟨rfl, ?_⟩
  exact below_set4 HB2.out (Nat.le_refl _) _ _ _ _
set_option maxRecDepth 100000 in
set_option maxHeartbeats 1000000 in
theorem ident_ok {w : World} {b p : Nat} {s : ByteArray} (h : Scn w b s p) (hp : p < s.size) (hs : s.size ≤ 1000000) (hy : ltZ (s[p].toNat : Nat) = true) (hn : identL (runL (s.data.toList.drop p)) = true) :
    Calls Tryz.prog 85 #[.pointer (some ⟨b, 0, none⟩)] w (RdP w (wv 1 p (s.extract p (p + (runL (s.data.toList.drop p)).length)) 0) (runL (s.data.toList.drop p)).length 0) := by
  have hA : ∀ o, Scn (w.alloc o) b s p := fun o => Blk.alloc h o
  have HA := Lib.hid hA
  have c0 : ∀ o, (w.alloc o).cell? ⟨b, 0, none⟩ = some (.string s) := fun o => (hA o).cell 0
  have c1 : ∀ o, (w.alloc o).cell? ⟨b, 1, none⟩ = some (.int .i64 p) := fun o => (hA o).cell 1
  have p0 : (0 : Int) ≤ (p : Int) := by omega
  have p1 : (p : Int) < (s.size : Int) := by omega
  have hb := Blk.lt h
  clear hA
  have hss := fun W => same_of (startsIdent_any (s[p].toNat : Nat) W)
  rw [hy] at hss
  generalize hx : s[p] = c at *
  have HS := Lib.hid hss
  have hrl := runL_len (s.data.toList.drop p)
  have hrun := fun W (hW : Scn W b s p) => run_any (w := W) hW (by omega) hs
  have htl : (s.extract p (p + (runL (s.data.toList.drop p)).length)).data.toList = runL (s.data.toList.drop p) := ext_run s p
  obtain ⟨t, ht⟩ : ∃ t, s.extract p (p + (runL (s.data.toList.drop p)).length) = t := ⟨_, rfl⟩
  rw [ht] at htl
  simp only [ht] at hrun
  have hid := fun W => isIdent_any t W (by have h3 : t.data.toList.length = t.size := by simp
                                           rw [htl] at h3; simp at hrl; unfold maxLen; omega)
  rw [htl, hn] at hid
  have HRUN := Lib.hid hrun
  have HID := Lib.hid hid
  have HT := Lib.hid ht
  have HTZ := Lib.hid (show t.size = (runL (s.data.toList.drop p)).length by rw [← htl]; simp)
  clear hss hy hn h hrl hrun hid htl ht
  go_enter Tryz.func85, Tryz.ntmps85
  go_wp2_with fail
  go_quiet ((go_at_call 148; exact Calls.quiet_of_same (HS.out _)))
  go_wp2_with fail
  refine (HRUN.out ((w.alloc Z33).drewN nq) (HA.out _)).mono ?_
  rintro e w2 ⟨rfl, hb2⟩
  have HB2 := Lib.hid (show Below w.heap.size w w2 from (Below.drewN_ ((Below.refl w.heap.size w).alloc (Nat.le_refl _) Z33) nq).trans (hb2.mono (by simp)))
  have hz : Blk w2 w.heap.size 33 #[.int .i64 0, .int .i64 0, .string ⟨#[]⟩, .int .i64 0] := Blk.below (w := (w.alloc Z33).drewN nq) (Blk.new w 33 _) hb2 (by simp)
  obtain ⟨z0, z1, z2, z3, y0, y1, y2, y3⟩ := blk33 hz
  have hscn : Scn w2 b s p := Blk.below (w := (w.alloc Z33).drewN nq) (HA.out _) hb2 (by simp; omega)
  have d0 := hscn.c0
  have d1 := hscn.c1
  have HZ := Lib.hid hz
  clear hb2 hz hscn
  go_wp2_with fail
  refine (HID.out _).mono ?_
  rintro e _ ⟨rfl, rfl⟩
  go_wp2_with fail
  obtain ⟨f0, f1, f2, f3, _, _, _, _⟩ := blk33 (set4 HZ.out (.int .i64 1) (.int .i64 p) (.string t) (.int .i64 0))
  refine bodyPost_ret (v := .tuple #[wv 1 p t 0, .int .i64 (t.size : Nat), .int .i64 0]) (by simp [results, Tryz.results85, go_sem, wv, f0, f1, f2, f3]) rfl ⟨by rw [HT.out, HTZ.out]; rfl, ?_⟩
  exact below_set4 HB2.out (Nat.le_refl _) _ _ _ _
def sgB (c : UInt8) : Bool := [123, 125, 91, 93, 40, 41, 60, 62, 61, 59, 44, 46, 45].contains c
theorem sg_index (c : UInt8) : decide (0 ≤ Lib.indexByte (⟨#[123, 125, 91, 93, 40, 41, 60, 62, 61, 59, 44, 46, 45]⟩ : ByteArray).data.toList c) = sgB c := by
  have : (decide (0 ≤ Lib.indexByte (⟨#[123, 125, 91, 93, 40, 41, 60, 62, 61, 59, 44, 46, 45]⟩ : ByteArray).data.toList c) == sgB c) = true := fin8 (p := fun c => decide (0 ≤ Lib.indexByte (⟨#[123, 125, 91, 93, 40, 41, 60, 62, 61, 59, 44, 46, 45]⟩ : ByteArray).data.toList c) == sgB c) (by decide +kernel) c
  simpa using this
set_option maxRecDepth 100000 in
set_option maxHeartbeats 1000000 in
theorem sign_no {w : World} {b p : Nat} {s : ByteArray} (h : Scn w b s p) (hp : p < s.size) (hn : sgB s[p] = false) :
    Calls Tryz.prog 88 #[.pointer (some ⟨b, 0, none⟩)] w (RdP w (wv 0 0 ⟨#[]⟩ 0) 0 0) := by
  have hA : ∀ o, Scn (w.alloc o) b s p := fun o => Blk.alloc h o
  have HA := Lib.hid hA
  have c0 : ∀ o, (w.alloc o).cell? ⟨b, 0, none⟩ = some (.string s) := fun o => (hA o).cell 0
  have c1 : ∀ o, (w.alloc o).cell? ⟨b, 1, none⟩ = some (.int .i64 p) := fun o => (hA o).cell 1
  have p0 : (0 : Int) ≤ (p : Int) := by omega
  have p1 : (p : Int) < (s.size : Int) := by omega
  have hb := Blk.lt h
  clear hA
  have hs := fun W => same_of (ibyte_any ⟨#[123, 125, 91, 93, 40, 41, 60, 62, 61, 59, 44, 46, 45]⟩ s[p] W)
  have hix : ¬ 0 ≤ Lib.indexByte (⟨#[123, 125, 91, 93, 40, 41, 60, 62, 61, 59, 44, 46, 45]⟩ : ByteArray).data.toList s[p] := by have := sg_index s[p]; rw [hn] at this; simpa using this
  generalize Lib.indexByte (⟨#[123, 125, 91, 93, 40, 41, 60, 62, 61, 59, 44, 46, 45]⟩ : ByteArray).data.toList s[p] = y at *
  have hix2 : y < 0 := by omega
  generalize hx : s[p] = c at *
  have HS := Lib.hid hs
  clear hs hn h
  go_enter Tryz.func88, Tryz.ntmps88
  go_wp2_with fail
  go_quiet ((go_at_call 89; exact Calls.quiet_of_same (HS.out _)))
  go_wp2_with fail
  refine bodyPost_ret (v := .tuple #[wv 0 0 ⟨#[]⟩ 0, .int .i64 0, .int .i64 0]) (by simp [results, Tryz.results88, go_sem, wv]) rfl ⟨rfl, ?_⟩
  exact below_set4 (Below.drewN_ ((Below.refl _ _).alloc (Nat.le_refl _) _) _) (Nat.le_refl _) _ _ _ _
set_option maxRecDepth 100000 in
set_option maxHeartbeats 1000000 in
theorem sign_ok {w : World} {b p : Nat} {s : ByteArray} (h : Scn w b s p) (hp : p < s.size) (hs : s.size ≤ 1000000) (hn : sgB s[p] = true) :
    Calls Tryz.prog 88 #[.pointer (some ⟨b, 0, none⟩)] w (RdP w (wv 4 p (s.extract p (p + 1)) 0) 1 0) := by
  have hA : ∀ o, Scn (w.alloc o) b s p := fun o => Blk.alloc h o
  have HA := Lib.hid hA
  have c0 : ∀ o, (w.alloc o).cell? ⟨b, 0, none⟩ = some (.string s) := fun o => (hA o).cell 0
  have c1 : ∀ o, (w.alloc o).cell? ⟨b, 1, none⟩ = some (.int .i64 p) := fun o => (hA o).cell 1
  have p0 : (0 : Int) ≤ (p : Int) := by omega
  have p1 : (p : Int) < (s.size : Int) := by omega
  have hb := Blk.lt h
  clear hA
  have hss := fun W => same_of (ibyte_any ⟨#[123, 125, 91, 93, 40, 41, 60, 62, 61, 59, 44, 46, 45]⟩ s[p] W)
  have hix : 0 ≤ Lib.indexByte (⟨#[123, 125, 91, 93, 40, 41, 60, 62, 61, 59, 44, 46, 45]⟩ : ByteArray).data.toList s[p] := by have := sg_index s[p]; rw [hn] at this; simpa using this
  generalize Lib.indexByte (⟨#[123, 125, 91, 93, 40, 41, 60, 62, 61, 59, 44, 46, 45]⟩ : ByteArray).data.toList s[p] = y at *
  have hix2 : ¬ y < 0 := by omega
  generalize hx : s[p] = c at *
  have HS := Lib.hid hss
  clear hss hn
  have hpc := fun W (hW : Scn W b s p) => piece_any (w := W) 1 hW (by omega) hs
  have HPC := Lib.hid hpc
  obtain ⟨t, ht⟩ : ∃ t, s.extract p (p + 1) = t := ⟨_, rfl⟩
  simp only [ht] at hpc ⊢
  replace HPC := Lib.hid hpc
  clear hpc ht h
  go_enter Tryz.func88, Tryz.ntmps88
  go_wp2_with fail
  go_quiet ((go_at_call 89; exact Calls.quiet_of_same (HS.out _)))
  have HSA := Lib.hid (show Scn ((w.alloc Z33).drewN nq) b s p from HA.out _)
  have HZA := Lib.hid (show Blk ((w.alloc Z33).drewN nq) w.heap.size 33 #[.int .i64 0, .int .i64 0, .string ⟨#[]⟩, .int .i64 0] from Blk.new w 33 _)
  have HBA := Lib.hid (show Below w.heap.size w ((w.alloc Z33).drewN nq) from Below.drewN_ ((Below.refl w.heap.size w).alloc (Nat.le_refl _) Z33) nq)
  have hsz : w.heap.size < ((w.alloc Z33).drewN nq).heap.size := by simp
  have d1 := HSA.out.c1
  clear c0 c1
  go_upto_region 3 with fail
  generalize (w.alloc (Obj.cells #[.int .i64 0, .int .i64 0, .string ⟨#[]⟩, .int .i64 0] 33)).drewN nq = wA at *
  go_region_with ((go_at_call 155; refine (HPC.out wA.drew HSA.out).mono ?_; rintro e w3 ⟨rfl, hb3⟩; have HB3 := Lib.hid (show Below w.heap.size w w3 from HBA.out.drew.trans (hb3.mono HBA.out.drew.size)); have hz : Blk w3 w.heap.size 33 #[.int .i64 0, .int .i64 0, .string ⟨#[]⟩, .int .i64 0] := Blk.below (w := wA.drew) HZA.out hb3 hsz; have HZ := Lib.hid hz; obtain ⟨z0, z1, z2, z3, y0, y1, y2, y3⟩ := blk33 hz; have d3 : w3.cell? ⟨b, 1, none⟩ = some (.int .i64 p) := (Blk.below (w := wA.drew) HSA.out hb3 (by show b < wA.heap.size; omega)).cell 1; clear hz hb3))
  all_goals
    go_wp2_with fail
    obtain ⟨f0, f1, f2, f3, _, _, _, _⟩ := blk33 (set4 HZ.out (.int .i64 4) (.int .i64 p) (.string t) (.int .i64 0))
    refine bodyPost_ret (v := .tuple #[wv 4 p t 0, .int .i64 1, .int .i64 0]) (by simp [results, Tryz.results88, go_sem, wv, f0, f1, f2, f3]) rfl ⟨rfl, ?_⟩
    exact below_set4 HB3.out (Nat.le_refl _) _ _ _ _
set_option maxRecDepth 100000 in
set_option maxHeartbeats 1000000 in
theorem number_no {w : World} {b p : Nat} {s : ByteArray} (h : Scn w b s p) (hp : p < s.size) (hn : dgZ (s[p].toNat : Nat) = false) :
    Calls Tryz.prog 86 #[.pointer (some ⟨b, 0, none⟩)] w (RdP w (wv 0 0 ⟨#[]⟩ 0) 0 0) := by
  have hA : ∀ o, Scn (w.alloc o) b s p := fun o => Blk.alloc h o
  have HA := Lib.hid hA
  have c0 : ∀ o, (w.alloc o).cell? ⟨b, 0, none⟩ = some (.string s) := fun o => (hA o).cell 0
  have c1 : ∀ o, (w.alloc o).cell? ⟨b, 1, none⟩ = some (.int .i64 p) := fun o => (hA o).cell 1
  have p0 : (0 : Int) ≤ (p : Int) := by omega
  have p1 : (p : Int) < (s.size : Int) := by omega
  have hb := Blk.lt h
  clear hA
  have hs := fun W => same_of (lisDigit_any (s[p].toNat : Nat) W)
  rw [hn] at hs
  generalize hx : s[p] = c at *
  have HS := Lib.hid hs
  clear hs hn h
  go_enter Tryz.func86, Tryz.ntmps86
  go_wp2_with fail
  go_quiet ((go_at_call 151; exact Calls.quiet_of_same (HS.out _)))
  go_wp2_with fail
  refine bodyPost_ret (v := .tuple #[wv 0 0 ⟨#[]⟩ 0, .int .i64 0, .int .i64 0]) (by simp [results, Tryz.results86, go_sem, wv]) rfl ⟨rfl, ?_⟩
  exact below_set4 (Below.drewN_ ((Below.refl _ _).alloc (Nat.le_refl _) _) _) (Nat.le_refl _) _ _ _ _
end Go.Proofs.YtoineheocipmaaaGreatDoor
