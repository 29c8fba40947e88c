/-
  tree: Parse.
-/
import Derived.Test.YthmdaejlopjjoaaGreatDoorTrG1
namespace Go.Proofs.YthmdaejlopjjoaaGreatDoor
open Go.RowKit
set_option linter.unusedVariables false
set_option linter.unusedSimpArgs false

/-- v holds these words, in memory from base on. -/
def OwnV (w : World) (base : Nat) (v : Value) (l : List Wd) : Prop := w.ownsRow base 73 4 v l.length (wcs l)
def ParseP (w : World) (r : Pz Tr) (e : Ending) (w' : World) : Prop := match r with
  | .no p c => e = .returned (.tuple #[.agg #[.string ⟨#[]⟩, .slice none 0 0, .slice none 0 0, .slice none 0 0, .slice none 0 0], .int .i64 p, .int .i64 c]) ∧ Below w.heap.size w w'
  | .ok x l => ∃ vs F, e = .returned (.tuple #[.agg vs, .int .i64 0, .int .i64 0]) ∧ MemL w' w.heap.size (Tr.dv Ty0 x) vs.toList F ∧ Below w.heap.size w w'
theorem OwnV.ps {w : World} {base b : Nat} {v : Value} {l : List Wd} (h : OwnV w base v l) (hg : Gd l) (hl : l.length ≤ 100000) (hb : Blk w b 106 #[v]) : ∃ g cur, Ps w b g cur l ∧ base ≤ g := by
  rcases h.2 with ⟨rfl, h0⟩ | ⟨g, cap, cur, rfl, h1, h2, h3, h4, h5, h6⟩
  · have := hg.len; omega
  · refine ⟨g, cur, ⟨⟨0, cap, hb, h3, by unfold maxLen at h4; omega, fun i hi => ?_⟩, h2, ?_, hg, hl⟩, h1⟩
    · have h7 : (cur.toList.take (l.length * 4))[i]? = (wcs l)[i]? := by rw [h6]
      have h8 : (wcs l).length = l.length * 4 := h.1
      rw [List.getElem?_take_of_lt (by omega)] at h7
      rw [Nat.zero_add, ← Array.getElem?_toList, h7]
    · rintro rfl
      have h7 := h2.symm.trans hb
      injection h7 with h7
      injection h7 with h7 h8
      cases h8
theorem OwnV.val {w : World} {base : Nat} {v : Value} {l : List Wd} (h : OwnV w base v l) : ∃ A c, v = .slice A l.length c := by
  rcases h.2 with ⟨rfl, h0⟩ | ⟨g, cap, cur, rfl, h1, h2, h3, h4, h5, h6⟩
  · exact ⟨none, 0, by rw [h0]⟩
  · exact ⟨_, cap, rfl⟩
theorem OwnV.kp {S : Nat → Prop} {w w' : World} {base : Nat} {v : Value} {l : List Wd} (h : OwnV w base v l) (hk : Kp S w w') (hS : ∀ i, S i → i < base) : OwnV w' base v l :=
  ownsRow_stays h fun g e => hk.block g (World.ownsRow.lt h g e).2 (fun s => by have := hS g s; have := (World.ownsRow.lt h g e).1; omega)
theorem Mem.val_sl {w : World} {B t k n : Nat} {cs : List Dv} {v : Value} {F : List Nat} (h : Mem w B (.sl t k n cs) v F) : ∃ A c, v = .slice A n c := by
  cases h with
  | sl _ _ _ _ _ xs G h hc =>
    rcases h.2 with ⟨rfl, h0⟩ | ⟨g, cap, cur, rfl, h1⟩
    · exact ⟨none, 0, by rw [h0]⟩
    · exact ⟨_, cap, rfl⟩
theorem Mem.val_at {w : World} {B : Nat} {u v : Value} {F : List Nat} (h : Mem w B (.at_ u) v F) : v = u := by
  cases h with
  | at_ _ h => rfl
theorem Tr.five {w : World} {B : Nat} {T : Ty} {x : Tr} {l : List Value} {F : List Nat} (h : MemL w B (Tr.dv T x) l F) : ∃ A1 c1 A2 c2 A3 c3 A4 c4, l = [.string x.pkg, .slice A1 x.imps.length c1, .slice A2 x.msgs.length c2, .slice A3 x.enums.length c3, .slice A4 x.svcs.length c4] := by
  unfold Tr.dv at h
  cases h with
  | cons d v F ds vs G h0 h =>
  cases h with
  | cons d v F ds vs G h1 h =>
  cases h with
  | cons d v F ds vs G h2 h =>
  cases h with
  | cons d v F ds vs G h3 h =>
  cases h with
  | cons d v F ds vs G h4 h =>
  cases h with
  | nil =>
  obtain ⟨A1, c1, rfl⟩ := h1.val_sl
  obtain ⟨A2, c2, rfl⟩ := h2.val_sl
  obtain ⟨A3, c3, rfl⟩ := h3.val_sl
  obtain ⟨A4, c4, rfl⟩ := h4.val_sl
  obtain rfl := h0.val_at
  exact ⟨A1, c1, A2, c2, A3, c3, A4, c4, rfl⟩
/-- Nothing that was there has turned. -/
theorem K3.below {B t a c : Nat} {w w' : World} (h : K3 t a c w w') (ht : B ≤ t) (ha : B ≤ a) (hc : B ≤ c) (hB : B ≤ w.heap.size) : Below B w w' := Kp.to_below h (by rintro k (e | e | e) <;> omega) hB
def erV (p c : Nat) : Nat → Value → Prop
  | 0, v => v = .agg #[.string ⟨#[]⟩, .slice none 0 0, .slice none 0 0, .slice none 0 0, .slice none 0 0]
  | 1, v => v = .int .i64 (p : Nat)
  | 2, v => v = .int .i64 (c : Nat)
  | _, _ => True
def erP (bt ba bc p c : Nat) (w0 : World) : Nat → (Nat → Value) → World → Prop
  | 3, _, W => Blk W bt 27 #[.string ⟨#[]⟩, .slice none 0 0, .slice none 0 0, .slice none 0 0, .slice none 0 0]
  | 4, _, W => Blk W ba 3 #[.int .i64 p]
  | 5, _, W => Blk W bc 28 #[.int .i64 c]
  | 6, _, W => Blk W bt 27 #[.string ⟨#[]⟩, .slice none 0 0, .slice none 0 0, .slice none 0 0, .slice none 0 0]
  | 7, _, W => Blk W ba 3 #[.int .i64 p]
  | 8, _, W => Blk W bc 28 #[.int .i64 c]
  | 9, _, W => K3 bt ba bc w0 W
  | _, _, _ => True
def erF (bt ba bc : Nat) (i : Nat) (W W' : World) : Prop := if i = 3 then Kp (fun k => k = bt) W W' else if i = 4 then Kp (fun k => k = ba) W W' else if i = 5 then Kp (fun k => k = bc) W W' else W' = W
section
set_option maxRecDepth 100000 in
set_option maxHeartbeats 800000 in
theorem parse_core (hX : Ext) (s : ByteArray) (w : World) (p c : Nat) (l : List Wd) (hG : c = 0 → Gd l ∧ l.length ≤ 100000)
    (hW : Calls Tryz.prog 53 #[.string s] (((w.alloc (.cells #[.string ⟨#[]⟩, .slice none 0 0, .slice none 0 0, .slice none 0 0, .slice none 0 0] 27)).alloc (.cells #[.int .i64 0] 3)).alloc (.cells #[.int .i64 0] 28)) fun e w' => ∃ v, e = .returned (.tuple #[v, .int .i64 p, .int .i64 c]) ∧ OwnV w' ((((w.alloc (.cells #[.string ⟨#[]⟩, .slice none 0 0, .slice none 0 0, .slice none 0 0, .slice none 0 0] 27)).alloc (.cells #[.int .i64 0] 3)).alloc (.cells #[.int .i64 0] 28))).heap.size v l ∧ Below ((((w.alloc (.cells #[.string ⟨#[]⟩, .slice none 0 0, .slice none 0 0, .slice none 0 0, .slice none 0 0] 27)).alloc (.cells #[.int .i64 0] 3)).alloc (.cells #[.int .i64 0] 28))).heap.size (((w.alloc (.cells #[.string ⟨#[]⟩, .slice none 0 0, .slice none 0 0, .slice none 0 0, .slice none 0 0] 27)).alloc (.cells #[.int .i64 0] 3)).alloc (.cells #[.int .i64 0] 28)) w') :
    Calls Tryz.prog 22 #[.string s] w (ParseP w (if c ≠ 0 then .no p c else fileP dnK l)) := by
  have hmf : ∀ (fn : Fn) (first cap : Array Value) (w : World), (Instr.makeFunc fn first cap).run Tryz.prog w = .ok (.func fn first cap) w := fun _ _ _ _ => rfl
  obtain ⟨R, hR⟩ : ∃ R, R = if c ≠ 0 then Pz.no p c else fileP dnK l := ⟨_, rfl⟩
  rw [← hR]
  have HR := Lib.hid hR
  have hb3 : Below w.heap.size w (((w.alloc (.cells #[.string ⟨#[]⟩, .slice none 0 0, .slice none 0 0, .slice none 0 0, .slice none 0 0] 27)).alloc (.cells #[.int .i64 0] 3)).alloc (.cells #[.int .i64 0] 28)) := (((Below.refl _ w).alloc (Nat.le_refl _) _).alloc (by simp) _).alloc (by simp; omega) _
  have HW := Lib.hid hW
  have HT := Lib.hid (show Blk (((w.alloc (.cells #[.string ⟨#[]⟩, .slice none 0 0, .slice none 0 0, .slice none 0 0, .slice none 0 0] 27)).alloc (.cells #[.int .i64 0] 3)).alloc (.cells #[.int .i64 0] 28)) w.heap.size 27 #[.string ⟨#[]⟩, .slice none 0 0, .slice none 0 0, .slice none 0 0, .slice none 0 0] from ((Blk.new w 27 _).alloc _).alloc _)
  have HA := Lib.hid (show Blk (((w.alloc (.cells #[.string ⟨#[]⟩, .slice none 0 0, .slice none 0 0, .slice none 0 0, .slice none 0 0] 27)).alloc (.cells #[.int .i64 0] 3)).alloc (.cells #[.int .i64 0] 28)) (w.heap.size + 1) 3 #[.int .i64 0] from by have := (Blk.new (w.alloc (.cells #[.string ⟨#[]⟩, .slice none 0 0, .slice none 0 0, .slice none 0 0, .slice none 0 0] 27)) 3 #[.int .i64 0]).alloc (.cells #[.int .i64 0] 28); rwa [World.size_alloc] at this)
  have HC := Lib.hid (show Blk (((w.alloc (.cells #[.string ⟨#[]⟩, .slice none 0 0, .slice none 0 0, .slice none 0 0, .slice none 0 0] 27)).alloc (.cells #[.int .i64 0] 3)).alloc (.cells #[.int .i64 0] 28)) (w.heap.size + 1 + 1) 28 #[.int .i64 0] from by have := Blk.new ((w.alloc (.cells #[.string ⟨#[]⟩, .slice none 0 0, .slice none 0 0, .slice none 0 0, .slice none 0 0] 27)).alloc (.cells #[.int .i64 0] 3)) 28 #[.int .i64 0]; rwa [World.size_alloc, World.size_alloc] at this)
  have HB := Lib.hid hb3
  have HS := Lib.hid (show ((((w.alloc (.cells #[.string ⟨#[]⟩, .slice none 0 0, .slice none 0 0, .slice none 0 0, .slice none 0 0] 27)).alloc (.cells #[.int .i64 0] 3)).alloc (.cells #[.int .i64 0] 28))).heap.size = w.heap.size + 3 by simp)
  clear hR hb3 hW
  go_enter_defers Tryz.func22, Tryz.ntmps22
  go_wp2_with fail
  refine HW.out.mono ?_
  rintro e w1 ⟨v, rfl, ho, hb⟩
  obtain ⟨A, cp, rfl⟩ := ho.val
  rw [HS.out] at ho hb
  have HO := Lib.hid ho
  have HB1 := Lib.hid (show Below w.heap.size w w1 from HB.out.trans (hb.mono (by omega)))
  have HT1 := Lib.hid (HT.out.below hb (by omega))
  have HA1 := Lib.hid (HA.out.below hb (by omega))
  have HC1 := Lib.hid (HC.out.below hb (by omega))
  have hs1 : w.heap.size + 2 < w1.heap.size := HC1.out.lt
  clear ho hb HW HT HA HC HB HS
  obtain ⟨bt, hbt⟩ : ∃ bt, bt = w.heap.size := ⟨_, rfl⟩
  obtain ⟨ba, hba⟩ : ∃ ba, ba = w.heap.size + 1 := ⟨_, rfl⟩
  obtain ⟨bc, hbc⟩ : ∃ bc, bc = w.heap.size + 1 + 1 := ⟨_, rfl⟩
  rw [← hbt] at HT1
  rw [← hba] at HA1
  rw [← hbc] at HC1
  simp only [← hbc]
  simp only [← hba]
  simp only [← hbt]
  have hab : ba ≠ bc := by omega
  have ca := HA1.out.cell 0
  have fa := HA1.out.frozen 0
  have cc := HC1.out.cell 0
  have fc := HC1.out.frozen 0
  simp only [List.getElem?_toArray, List.getElem?_cons_zero] at ca cc
  have cc2 : ∀ u, (w1.setCell ⟨ba, 0, none⟩ u).cell? ⟨bc, 0, none⟩ = some (.int .i64 0) := fun u => by rw [World.cell?_setCell_other]; exact cc; intro e; injection e with e; omega
  have fc2 : ∀ u, (w1.setCell ⟨ba, 0, none⟩ u).frozen? ⟨bc, 0, none⟩ = false := fun u => by rw [World.frozen?_setCell]; exact fc
  have HA2 := Lib.hid (show Blk ((w1.setCell ⟨ba, 0, none⟩ (.int .i64 p)).setCell ⟨bc, 0, none⟩ (.int .i64 c)) ba 3 #[.int .i64 p] from (HA1.out.set_ 0 _).far (p := ⟨bc, 0, none⟩) (by show ba ≠ bc; omega) _)
  have HC2 := Lib.hid (show Blk ((w1.setCell ⟨ba, 0, none⟩ (.int .i64 p)).setCell ⟨bc, 0, none⟩ (.int .i64 c)) bc 28 #[.int .i64 c] from (HC1.out.far (p := ⟨ba, 0, none⟩) (by show bc ≠ ba; omega) _).set_ 0 _)
  have HT2 := Lib.hid (show Blk ((w1.setCell ⟨ba, 0, none⟩ (.int .i64 p)).setCell ⟨bc, 0, none⟩ (.int .i64 c)) bt 27 #[.string ⟨#[]⟩, .slice none 0 0, .slice none 0 0, .slice none 0 0, .slice none 0 0] from (HT1.out.far (p := ⟨ba, 0, none⟩) (by show bt ≠ ba; omega) _).far (p := ⟨bc, 0, none⟩) (by show bt ≠ bc; omega) _)
  have HK2 := Lib.hid (show K3 bt ba bc w1 ((w1.setCell ⟨ba, 0, none⟩ (.int .i64 p)).setCell ⟨bc, 0, none⟩ (.int .i64 c)) from ((Kp.refl _ w1).setCell (fun _ => .inr (.inl rfl)) _).setCell (fun _ => .inr (.inr rfl)) _)
  have HN := Lib.hid (show (w.heap.size ≤ bt ∧ w.heap.size ≤ ba ∧ w.heap.size ≤ bc) ∧ (bt ≠ ba ∧ bt ≠ bc ∧ ba ≠ bc) ∧ (bt < w.heap.size + 3 ∧ ba < w.heap.size + 3 ∧ bc < w.heap.size + 3) ∧ w.heap.size + 3 ≤ w1.heap.size by omega)
  have HG := Lib.hid hG
  clear hbt hba hbc hs1 hG
  by_cases hc0 : c = 0
  · obtain ⟨hgd, hlen⟩ := HG.out hc0
    have HR2 := Lib.hid (show R = fileP dnK l by rw [HR.out, if_neg (by simp [hc0])])
    subst hc0
    have hc1 := HC2.out.cell 0
    simp only [List.getElem?_toArray, List.getElem?_cons_zero] at hc1
    have HO2 := Lib.hid (HO.out.kp HK2.out (by rintro i (e | e | e) <;> (have := HN.out; omega)))
    have hO3 := HO2.out.kp ((Kp.refl (fun _ => False) _).alloc (.cells #[.slice A l.length cp] 106)) (fun i f => f.elim)
    obtain ⟨g, cur, hps, hgb⟩ := hO3.ps hgd hlen (Blk.new _ 106 _)
    have HF := Lib.hid (readFile_any hX hps)
    have hsz2 : ((w1.setCell ⟨ba, 0, none⟩ (.int .i64 p)).setCell ⟨bc, 0, none⟩ (.int .i64 ((0 : Nat) : Int))).heap.size = w1.heap.size := by simp
    rw [hsz2] at HF
    clear HR HG hgd hlen hO3 hps hgb hsz2 hX
    simp only [show ((0 : Nat) : Int) = 0 from rfl] at HA2 HC2 HT2 HK2 hc1 HO2 HF
    go_wp2_with fail
    refine HF.out.mono ?_
    clear hc1 cc2 fc2 ca fa cc fc HO2 HO HF
    generalize World.setCell (World.setCell w1 _ _) _ _ = w2 at *
    have hsz : w1.heap.size ≤ w2.heap.size := HK2.out.size
    rintro e w3 hq
    generalize fileP dnK l = RR at *
    obtain ⟨⟨hn1, hn2, hn3⟩, ⟨hn4, hn5, hn6⟩, ⟨hn7, hn8, hn9⟩, hn10⟩ := HN.out
    have hb2 : Below w.heap.size w1 (w2.alloc (.cells #[.slice A l.length cp] 106)) := (K3.below HK2.out (by omega) (by omega) (by omega) (by omega)).alloc (by omega) _
    have hkb : Kb w1.heap.size (w2.alloc (.cells #[.slice A l.length cp] 106)) w3 := by
      cases RR with
      | no p' c' => exact hq.2
      | ok x l' => obtain ⟨v, -, vs, F, -, -, -, h⟩ := hq; exact h
    have hb3 : Below w.heap.size w w3 := HB1.out.trans (hb2.trans (Kp.to_below hkb (by rintro k rfl; omega) (by rw [World.size_alloc]; omega)))
    have hs3 : w.heap.size ≤ w3.heap.size := hb3.size
    have hT3 := (HT2.out.alloc (.cells #[.slice A l.length cp] 106)).kp hkb (by omega)
    have hA3 := (HA2.out.alloc (.cells #[.slice A l.length cp] 106)).kp hkb (by omega)
    have hC3 := (HC2.out.alloc (.cells #[.slice A l.length cp] 106)).kp hkb (by omega)
    cases RR with
    | no p' c' =>
      obtain ⟨rfl, -⟩ := hq
      unfold Stp
      show Leaves Tryz.prog Tryz.f22 _ _ [_] (.panicking _) w3
      refine leaves_cons (f := 54) (args := #[.pointer (some ⟨bt, 0, none⟩), .pointer (some ⟨ba, 0, none⟩), .pointer (some ⟨bc, 0, none⟩)]) (by simp) (by simp [go_sem]) ?_
      refine (stop_found p' c' bt ba bc _ _ _ _ _ _ _ [] w3 hn4 hn5 hn6 hT3 hA3 hC3).mono ?_
      rintro e u w4 ⟨rfl, rfl, h1, h2, h3, h4⟩
      obtain ⟨⟨m0, m1, m2, m3, m4⟩, -⟩ := Blk.five_ h1
      have ca := h2.cell 0
      have cc := h3.cell 0
      simp only [List.getElem?_toArray, List.getElem?_cons_zero] at ca cc
      show Leaves Tryz.prog Tryz.f22 _ _ [] .returning w4
      refine ⟨.tuple #[.agg #[.string ⟨#[]⟩, .slice none 0 0, .slice none 0 0, .slice none 0 0, .slice none 0 0], .int .i64 p', .int .i64 c'], by simp [results, Tryz.results22, go_sem, m0, m1, m2, m3, m4, ca, cc], ?_⟩
      rw [HR2.out]
      exact ⟨rfl, hb3.trans (K3.below h4 hn1 hn2 hn3 hs3)⟩
    | ok x l' =>
      obtain ⟨v, rfl, vs, F, rfl, hm, hps', -⟩ := hq
      obtain ⟨A1, c1, A2, c2, A3, c3, A4, c4, hvs⟩ := Tr.five hm
      obtain rfl : vs = #[.string x.pkg, .slice A1 x.imps.length c1, .slice A2 x.msgs.length c2, .slice A3 x.enums.length c3, .slice A4 x.svcs.length c4] := by rw [← Array.toArray_toList (xs := vs), hvs]
      have hF := MemL.lt hm
      obtain ⟨⟨q0, q1, q2, q3, q4⟩, f0, f1, f2, f3, f4⟩ := Blk.five_ hT3
      have hT5 := hT3.put5 (.string x.pkg) (.slice A1 x.imps.length c1) (.slice A2 x.msgs.length c2) (.slice A3 x.enums.length c3) (.slice A4 x.svcs.length c4)
      have hK5 : K3 bt ba bc w3 _ := Kp.put5 (q := bt) (Kp.refl (fun k => k = bt ∨ k = ba ∨ k = bc) w3) (fun _ => .inl rfl) (.string x.pkg) (.slice A1 x.imps.length c1) (.slice A2 x.msgs.length c2) (.slice A3 x.enums.length c3) (.slice A4 x.svcs.length c4)
      have hk5 := Kp.put5 (q := bt) (Kp.refl (fun k => k = bt) w3) (fun _ => rfl) (.string x.pkg) (.slice A1 x.imps.length c1) (.slice A2 x.msgs.length c2) (.slice A3 x.enums.length c3) (.slice A4 x.svcs.length c4)
      have hA5 := hA3.kp hk5 (fun e => hn4 e.symm)
      have hC5 := hC3.kp hk5 (fun e => hn5 e.symm)
      have HAl := Lib.hid (hA5.set_ 0 (.int .i64 0))
      have hC6 := hC5.far (p := ⟨ba, 0, none⟩) (by show bc ≠ ba; omega) (.int .i64 0)
      have cA := hA5.cell 0
      have fA := hA5.frozen 0
      have cC := hC6.cell 0
      have fC := hC6.frozen 0
      simp only [List.getElem?_toArray, List.getElem?_cons_zero] at cA cC
      have HA7 := Lib.hid (show Blk _ ba 3 #[.int .i64 0] from (hA5.set_ 0 (.int .i64 0)).far (p := ⟨bc, 0, none⟩) (by show ba ≠ bc; omega) (.int .i64 0))
      have HC7 := Lib.hid (show Blk _ bc 28 #[.int .i64 0] from hC6.set_ 0 (.int .i64 0))
      have HT7 := Lib.hid ((hT5.far (p := ⟨ba, 0, none⟩) (by show bt ≠ ba; omega) (.int .i64 0)).far (p := ⟨bc, 0, none⟩) (by show bt ≠ bc; omega) (.int .i64 0))
      have HK7 := Lib.hid ((hK5.setCell (p := ⟨ba, 0, none⟩) (fun _ => .inr (.inl rfl)) (.int .i64 0)).setCell (p := ⟨bc, 0, none⟩) (fun _ => .inr (.inr rfl)) (.int .i64 0))
      have hal : (w2.alloc (.cells #[.slice A l.length cp] 106)).heap.size = w2.heap.size + 1 := World.size_alloc ..
      have HM := Lib.hid (MemL.base (B' := w.heap.size) (by omega) (MemL.stays hm fun g hg => HK7.out.block g (hF g hg).2 (by have := (hF g hg).1; omega)))
      have HB7 := Lib.hid (hb3.trans (K3.below HK7.out hn1 hn2 hn3 hs3))
      clear hm hA3 hC3 hT3 hb3 hF hb2 hkb hps' hT5 hK5 hk5 hA5 hC5 hC6 hal
      clear hn1 hn2 hn3 hn4 hn5 hn6 hn7 hn8 hn9 hn10 hsz hs3 hab HT1 HA1 HC1 HA2 HC2 HT2 HK2 HN HAl HB1
      go_wp2_with fail
      show Leaves Tryz.prog Tryz.f22 _ _ [_] .returning _
      refine leaves_cons (f := 54) (args := #[.pointer (some ⟨bt, 0, none⟩), .pointer (some ⟨ba, 0, none⟩), .pointer (some ⟨bc, 0, none⟩)]) (by simp) (by simp [go_sem]) ?_
      refine (stop_none bt ba bc _).mono ?_
      rintro e u w4 ⟨rfl, rfl, rfl⟩
      obtain ⟨⟨m0, m1, m2, m3, m4⟩, -⟩ := Blk.five_ HT7.out
      have ca := HA7.out.cell 0
      have cc := HC7.out.cell 0
      simp only [List.getElem?_toArray, List.getElem?_cons_zero] at ca cc
      generalize World.setCell (World.setCell _ ⟨ba, 0, none⟩ _) ⟨bc, 0, none⟩ _ = w4 at *
      show Leaves Tryz.prog Tryz.f22 _ _ [] .returning w4
      refine ⟨.tuple #[.agg #[.string x.pkg, .slice A1 x.imps.length c1, .slice A2 x.msgs.length c2, .slice A3 x.enums.length c3, .slice A4 x.svcs.length c4], .int .i64 0, .int .i64 0], by simp [results, Tryz.results22, go_sem, m0, m1, m2, m3, m4, ca, cc], ?_⟩
      rw [HR2.out]
      exact ⟨_, F, rfl, HM.out, HB7.out⟩
  · have hcz : ¬ (c : Int) = 0 := by omega
    have HR2 := Lib.hid (show R = .no p c by rw [HR.out, if_pos hc0])
    have hc1 := HC2.out.cell 0
    simp only [List.getElem?_toArray, List.getElem?_cons_zero] at hc1
    clear HR hc0
    go_wp2_with fail
    clear cc2 fc2 ca fa cc fc hc1 HO HG hX hcz
    generalize World.setCell (World.setCell w1 _ _) _ _ = w2 at *
    generalize Value.bool _ = vz
    refine wp_region_flow (by kernel_rfl) 22 4 1 (fun i => match i with | 1 => [7] | 2 => [8] | 3 => [6] | 4 => [7] | 5 => [8] | _ => []) (fun _ => []) (fun i => match i with | 3 => [6] | 4 => [7] | 5 => [8] | _ => []) (fun i => ([14, 15, 16, 22, 23, 24, 25, 26, 27, 28] : List Nat).getD i 0) (by kernel_rfl) rfl [14, 15, 16, 22, 23, 24, 25, 26, 27, 28] (by kernel_rfl)
      (erF bt ba bc) (erV p c) (erP bt ba bc p c w2) ?cong ?st ?t0 ?op ?skip ?done
    case cong =>
      intro i d d' W hi hj h
      have hi : i < 10 := hi
      obtain rfl | rfl | rfl | rfl | rfl | rfl | rfl | rfl | rfl | rfl : i = 0 ∨ i = 1 ∨ i = 2 ∨ i = 3 ∨ i = 4 ∨ i = 5 ∨ i = 6 ∨ i = 7 ∨ i = 8 ∨ i = 9 := by omega
      all_goals exact h
    case st =>
      intro i j d W W' hi hj hij hsp hr h hF
      have hi : i < 6 := hi
      have hj : j < 10 := hj
      obtain ⟨hn4, hn5, hn6⟩ := HN.out.2.1
      unfold erF at hF
      by_cases i3 : i = 3
      · rw [if_pos i3] at hF
        subst i3
        obtain rfl | rfl | rfl | rfl | rfl | rfl | rfl | rfl | rfl | rfl : j = 0 ∨ j = 1 ∨ j = 2 ∨ j = 3 ∨ j = 4 ∨ j = 5 ∨ j = 6 ∨ j = 7 ∨ j = 8 ∨ j = 9 := by omega
        all_goals first
          | trivial
          | exact absurd rfl hij
          | (simp at hsp; done)
          | exact Blk.kp h hF (by omega)
          | exact Kp.trans h (hF.mono fun _ e _ => .inl e)
      rw [if_neg i3] at hF
      by_cases i4 : i = 4
      · rw [if_pos i4] at hF
        subst i4
        obtain rfl | rfl | rfl | rfl | rfl | rfl | rfl | rfl | rfl | rfl : j = 0 ∨ j = 1 ∨ j = 2 ∨ j = 3 ∨ j = 4 ∨ j = 5 ∨ j = 6 ∨ j = 7 ∨ j = 8 ∨ j = 9 := by omega
        all_goals first
          | trivial
          | exact absurd rfl hij
          | (simp at hsp; done)
          | exact Blk.kp h hF (by omega)
          | exact Kp.trans h (hF.mono fun _ e _ => .inr (.inl e))
      rw [if_neg i4] at hF
      by_cases i5 : i = 5
      · rw [if_pos i5] at hF
        subst i5
        obtain rfl | rfl | rfl | rfl | rfl | rfl | rfl | rfl | rfl | rfl : j = 0 ∨ j = 1 ∨ j = 2 ∨ j = 3 ∨ j = 4 ∨ j = 5 ∨ j = 6 ∨ j = 7 ∨ j = 8 ∨ j = 9 := by omega
        all_goals first
          | trivial
          | exact absurd rfl hij
          | (simp at hsp; done)
          | exact Blk.kp h hF (by omega)
          | exact Kp.trans h (hF.mono fun _ e _ => .inr (.inr e))
      rw [if_neg i5] at hF
      subst hF
      exact h
    case t0 =>
      intro j d hj
      obtain rfl | rfl | rfl | rfl : j = 0 ∨ j = 1 ∨ j = 2 ∨ j = 3 := by omega
      · exact HT2.out
      · exact HA2.out
      · exact HC2.out
      · exact (Kp.refl _ w2).drew
    case op =>
      intro i o ho u W hdep hV _ _ K hK
      simp only [over, List.foldl_cons, List.foldl_nil, List.setIfInBounds_toArray, List.set_cons_zero, List.set_cons_succ, List.set_nil, List.getD_cons_zero, List.getD_cons_succ, Array.getD_eq_getD_getElem?, List.getElem?_toArray] at hK hdep hV ⊢
      match i, ho with
      | 0, ho =>
        simp only [List.getElem?_toArray, List.getElem?_cons_zero, List.getElem?_cons_succ, Option.some.injEq] at ho
        subst ho
        go_wp2
        exact hK _ _ rfl trivial rfl
      | 1, ho =>
        simp only [List.getElem?_toArray, List.getElem?_cons_zero, List.getElem?_cons_succ, Option.some.injEq] at ho
        subst ho
        have hq := hdep 7 (by simp)
        have hc := Blk.cell hq 0
        simp only [List.getElem?_toArray, List.getElem?_cons_zero] at hc
        go_wp2
        exact hK _ _ rfl trivial rfl
      | 2, ho =>
        simp only [List.getElem?_toArray, List.getElem?_cons_zero, List.getElem?_cons_succ, Option.some.injEq] at ho
        subst ho
        have hq := hdep 8 (by simp)
        have hc := Blk.cell hq 0
        simp only [List.getElem?_toArray, List.getElem?_cons_zero] at hc
        go_wp2
        exact hK _ _ rfl trivial rfl
      | 3, ho =>
        simp only [List.getElem?_toArray, List.getElem?_cons_zero, List.getElem?_cons_succ, Option.some.injEq] at ho
        subst ho
        have v0 := hV 0 (by kernel_rfl)
        simp only [List.getD_cons_zero, List.getD_cons_succ, erV] at v0
        simp only [v0] at hK ⊢
        have hT := hdep 6 (by simp)
        obtain ⟨⟨m0, m1, m2, m3, m4⟩, f0, f1, f2, f3, f4⟩ := Blk.five_ hT
        go_wp2
        exact hK undef _ trivial (Blk.put5 hT _ _ _ _ _) (Kp.put5 (S := fun k => k = bt) (Kp.refl _ W) (fun _ => rfl) _ _ _ _ _)
      | 4, ho =>
        simp only [List.getElem?_toArray, List.getElem?_cons_zero, List.getElem?_cons_succ, Option.some.injEq] at ho
        subst ho
        have v1 := hV 1 (by kernel_rfl)
        simp only [List.getD_cons_zero, List.getD_cons_succ, erV] at v1
        simp only [v1] at hK ⊢
        have hA := hdep 7 (by simp)
        have hc := Blk.cell hA 0
        have hf := Blk.frozen hA 0
        simp only [List.getElem?_toArray, List.getElem?_cons_zero] at hc
        go_wp2
        exact hK undef _ trivial (Blk.set_ hA 0 _) ((Kp.refl (fun k => k = ba) W).setCell (fun _ => rfl) _)
      | 5, ho =>
        simp only [List.getElem?_toArray, List.getElem?_cons_zero, List.getElem?_cons_succ, Option.some.injEq] at ho
        subst ho
        have v2 := hV 2 (by kernel_rfl)
        simp only [List.getD_cons_zero, List.getD_cons_succ, erV] at v2
        simp only [v2] at hK ⊢
        have hC := hdep 8 (by simp)
        have hc := Blk.cell hC 0
        have hf := Blk.frozen hC 0
        simp only [List.getElem?_toArray, List.getElem?_cons_zero] at hc
        go_wp2
        exact hK undef _ trivial (Blk.set_ hC 0 _) ((Kp.refl (fun k => k = bc) W).setCell (fun _ => rfl) _)
      | k + 6, ho => simp at ho
    case skip =>
      intro i o g b ho hg
      rw [no_guard (by kernel_rfl) ho] at hg
      cases hg
    case done =>
      intro u W hV hP
      have hT := hP 3 (by decide) (by decide)
      have hA := hP 4 (by decide) (by decide)
      have hC := hP 5 (by decide) (by decide)
      have hk := hP 9 (by decide) (by decide)
      simp only [over, List.foldl_cons, List.foldl_nil, List.setIfInBounds_toArray, List.set_cons_zero, List.set_cons_succ, List.set_nil, List.getD_cons_zero, List.getD_cons_succ, Array.getD_eq_getD_getElem?, List.getElem?_toArray]
      obtain ⟨⟨hn1, hn2, hn3⟩, -⟩ := HN.out
      obtain ⟨⟨m0, m1, m2, m3, m4⟩, -⟩ := Blk.five_ hT
      have ca := Blk.cell hA 0
      have cc := Blk.cell hC 0
      simp only [List.getElem?_toArray, List.getElem?_cons_zero] at ca cc
      have hbel : Below w.heap.size w W := HB1.out.trans (K3.below (Kp.trans HK2.out hk) (by omega) (by omega) (by omega) HB1.out.size)
      go_wp2_with fail
      show Leaves Tryz.prog Tryz.f22 _ _ [] .returning W
      refine ⟨.tuple #[.agg #[.string ⟨#[]⟩, .slice none 0 0, .slice none 0 0, .slice none 0 0, .slice none 0 0], .int .i64 p, .int .i64 c], by simp [results, Tryz.results22, go_sem, m0, m1, m2, m3, m4, ca, cc], ?_⟩
      rw [HR2.out]
      exact ⟨rfl, hbel⟩
end
end Go.Proofs.YthmdaejlopjjoaaGreatDoor
