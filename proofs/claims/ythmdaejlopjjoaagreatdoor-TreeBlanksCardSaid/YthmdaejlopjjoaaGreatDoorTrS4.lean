/-
  tree: Parse and Bare, as the laws use them.
-/
import Derived.Test.YthmdaejlopjjoaaGreatDoorTrQi
import Derived.Test.YthmdaejlopjjoaaGreatDoorGoA
namespace Go.Proofs.YthmdaejlopjjoaaGreatDoor
open Go.RowKit
set_option linter.unusedVariables false
set_option linter.unusedSimpArgs false

abbrev noTr : Tr := ⟨kNone, [], [], [], []⟩
/-- The tree that is answered, and the error. -/
def resT : Pz Tr → Tr
  | .no _ _ => noTr
  | .ok x _ => x
def resC : Pz Tr → Nat
  | .no _ c => c
  | .ok _ _ => 0
theorem resT_er (r : Pz Tr) : resT (r.er Tr.bare) = (resT r).bare := by cases r <;> rfl
theorem resC_er (r : Pz Tr) : resC (r.er Tr.bare) = resC r := by cases r <;> rfl
theorem gd_wz : ∀ {l : List Wd}, Gd l → Wz l
  | [], _ => fun w h => by cases h
  | [x], h => fun w hw => by
    rw [List.mem_singleton.1 hw]
    have h1 : WdB x := Gd.hd h
    exact h1.t
  | x :: y :: l, h => fun w hw => by
    rcases List.mem_cons.1 hw with rfl | hw
    · have h1 : WdB w := h.1
      exact h1.t
    · exact gd_wz h.2.2 w hw
theorem few_none : noTr.Few := ⟨sm_none, Ls.nil, Ls.nil, Ls.nil, Ls.nil⟩
theorem parse_few (s : ByteArray) : (resT (parseR s)).Few := by
  unfold parseR
  split
  · exact few_none
  · rename_i h
    have := fileP_sz dnK (gd_wz (words_gd (by simpa using h)).1)
    cases hr : fileP dnK (wordsR s).l with
    | no p c => exact few_none
    | ok x l => rw [hr] at this; exact this.2
theorem mem_none (w : World) (B : Nat) : MemL w B (Tr.dv Ty0 noTr) [.string ⟨#[]⟩, .slice none 0 0, .slice none 0 0, .slice none 0 0, .slice none 0 0] ([] ++ ([] ++ ([] ++ ([] ++ ([] ++ []))))) :=
  .cons _ _ [] _ _ _ (.at_ _ rfl) (.cons _ _ [] _ _ _ (.sl _ _ 0 [] _ [] [] (World.ownsRow_nil w B _ _) .nil) (.cons _ _ [] _ _ _ (.sl _ _ 0 [] _ [] [] (World.ownsRow_nil w B _ _) .nil) (.cons _ _ [] _ _ _ (.sl _ _ 0 [] _ [] [] (World.ownsRow_nil w B _ _) .nil) (.cons _ _ [] _ _ _ (.sl _ _ 0 [] _ [] [] (World.ownsRow_nil w B _ _) .nil) .nil))))
theorem parse_t (s : ByteArray) (w : World) (hE : Env w) (hs : s.size ≤ 1000000) : Calls Tryz.prog 22 #[.string s] w fun e w' => ∃ (p : Nat) (vs : Array Value) (F : List Nat), e = .returned (.tuple #[.agg vs, .int .i64 p, .int .i64 (resC (parseR s))]) ∧ MemL w' w.heap.size (Tr.dv Ty0 (resT (parseR s))) vs.toList F ∧ Below w.heap.size w w' := by
  refine (parse_any s w hE hs).mono ?_
  generalize parseR s = R
  cases R with
  | no p c =>
    rintro e w' ⟨rfl, hb⟩
    exact ⟨p, _, _, rfl, mem_none w' _, hb⟩
  | ok x l =>
    rintro e w' ⟨vs, F, rfl, hm, hb⟩
    exact ⟨0, vs, F, rfl, hm, hb⟩
set_option maxRecDepth 100000 in
set_option maxHeartbeats 1000000 in
theorem bare_any {x : Tr} {w : World} {B0 : Nat} {xs : List Value} {G0 : List Nat} (hx : MemL w B0 (Tr.dv Ty0 x) xs G0) (hf : x.Few) :
    Calls Tryz.prog 15 #[.agg xs.toArray] w fun e w' => ∃ (vs : Array Value) (G : List Nat), e = .returned (.agg vs) ∧ MemL w' w.heap.size (Tr.dv Ty0 x.bare) vs.toList G ∧ Kn w w' := by
  have HX := Lib.hid hx
  obtain ⟨A1, c1, F1, A2, c2, F2, A3, c3, F3, A4, c4, F4, rfl, -⟩ := Tr.q hx
  have HK0 := Lib.hid (((Kp.refl (fun _ => False) w).alloc (.cells #[.string x.pkg, .slice A1 x.imps.length c1, .slice A2 x.msgs.length c2, .slice A3 x.enums.length c3, .slice A4 x.svcs.length c4] 27)).alloc (.cells #[.string ⟨#[]⟩, .slice none 0 0, .slice none 0 0, .slice none 0 0, .slice none 0 0] 27))
  have HR := Lib.hid (show Blk _ (w.heap.size + 1) 27 #[.string ⟨#[]⟩, .slice none 0 0, .slice none 0 0, .slice none 0 0, .slice none 0 0] by have := Blk.new (w.alloc (.cells #[.string x.pkg, .slice A1 x.imps.length c1, .slice A2 x.msgs.length c2, .slice A3 x.enums.length c3, .slice A4 x.svcs.length c4] 27)) 27 #[.string ⟨#[]⟩, .slice none 0 0, .slice none 0 0, .slice none 0 0, .slice none 0 0]; simpa using this)
  have HC := Lib.hid (treeC_bare (HX.out.kn HK0.out) hf)
  clear hx
  go_enter Tryz.func15, Tryz.ntmps15
  go_wp2_with fail
  refine HC.out.mono ?_
  rintro e w1 ⟨vs, G, rfl, hm, hk⟩
  have HM := Lib.hid hm
  have HK := Lib.hid hk
  obtain ⟨D1, d1, H1, D2, d2, H2, D3, d3, H3, D4, d4, H4, hvs, -⟩ := Tr.q hm
  obtain rfl : vs = #[.string x.bare.pkg, .slice D1 x.bare.imps.length d1, .slice D2 x.bare.msgs.length d2, .slice D3 x.bare.enums.length d3, .slice D4 x.bare.svcs.length d4] := by rw [← Array.toArray_toList (xs := vs), hvs]
  generalize hy : x.bare = y at *
  have HY := Lib.hid hy
  clear hy
  have hr1 := HR.out.kp hk (fun f => f)
  obtain ⟨⟨r0, r1, r2, r3, r4⟩, z0, z1, z2, z3, z4⟩ := hr1.five_
  have HF := Lib.hid (hr1.put5 (.string y.pkg) (.slice D1 y.imps.length d1) (.slice D2 y.msgs.length d2) (.slice D3 y.enums.length d3) (.slice D4 y.svcs.length d4))
  have HFR := Lib.hid ((Kp.setCell (p := ⟨w.heap.size + 1, 4, none⟩) (Kp.setCell (p := ⟨w.heap.size + 1, 3, none⟩) (Kp.setCell (p := ⟨w.heap.size + 1, 2, none⟩) (Kp.setCell (p := ⟨w.heap.size + 1, 1, none⟩) (Kp.setCell (p := ⟨w.heap.size + 1, 0, none⟩) (Kp.refl (fun k => k = w.heap.size + 1) w1) (fun _ => rfl) (.string y.pkg)) (fun _ => rfl) (.slice D1 y.imps.length d1)) (fun _ => rfl) (.slice D2 y.msgs.length d2)) (fun _ => rfl) (.slice D3 y.enums.length d3)) (fun _ => rfl) (.slice D4 y.svcs.length d4)))
  have HSZ := Lib.hid (show ((w.alloc (.cells #[.string x.pkg, .slice A1 x.imps.length c1, .slice A2 x.msgs.length c2, .slice A3 x.enums.length c3, .slice A4 x.svcs.length c4] 27)).alloc (.cells #[.string ⟨#[]⟩, .slice none 0 0, .slice none 0 0, .slice none 0 0, .slice none 0 0] 27)).heap.size = w.heap.size + 2 by simp)
  clear hm hk hr1
  go_wp2_with fail
  obtain ⟨⟨f0, f1, f2, f3, f4⟩, -⟩ := HF.out.five_
  refine bodyPost_ret (v := .agg #[.string y.pkg, .slice D1 y.imps.length d1, .slice D2 y.msgs.length d2, .slice D3 y.enums.length d3, .slice D4 y.svcs.length d4]) (by simp [results, Tryz.results15, go_sem, f0, f1, f2, f3, f4]) rfl ⟨#[.string y.pkg, .slice D1 y.imps.length d1, .slice D2 y.msgs.length d2, .slice D3 y.enums.length d3, .slice D4 y.svcs.length d4], G, rfl, ?_, Kp.trans' (HK0.out.trans HK.out) HFR.out (fun i e hi => by omega)⟩
  have hm := HM.out
  have hsz := HSZ.out
  rw [hsz] at hm
  rw [HY.out]
  exact MemL.base (B := w.heap.size + 2) (by omega) (MemL.stays hm fun g hg => HFR.out.block g (MemL.lt hm g hg).2 (by have := (MemL.lt hm g hg).1; omega))
end Go.Proofs.YthmdaejlopjjoaaGreatDoor
