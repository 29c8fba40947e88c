/-
  tree: a message.
  tree: a message, however deep.
  tree: a file that is being read.
-/
import Derived.Test.YthmdaejlopjjoaaGreatDoorMsC
import Derived.Test.YthmdaejlopjjoaaGreatDoorTrM11
import Derived.Test.YthmdaejlopjjoaaGreatDoorPaB
namespace Go.Proofs.YthmdaejlopjjoaaGreatDoor
section
open Go.RowKit
set_option linter.unusedVariables false
set_option linter.unusedSimpArgs false

/-- What is too deep is refused only where an identifier stands. -/
def dnK (l : List Wd) : Bool := decide ((hdW l).k = 1)
theorem Blk.eight_ {w : World} {q : Nat} {t : TypeId} {a0 a1 a2 a3 a4 a5 a6 a7 : Value} (h : Blk w q t #[a0, a1, a2, a3, a4, a5, a6, a7]) :
    (w.cell? ⟨q, 0, none⟩ = some a0 ∧ w.cell? ⟨q, 1, none⟩ = some a1 ∧ w.cell? ⟨q, 2, none⟩ = some a2 ∧ w.cell? ⟨q, 3, none⟩ = some a3 ∧ w.cell? ⟨q, 4, none⟩ = some a4 ∧ w.cell? ⟨q, 5, none⟩ = some a5 ∧ w.cell? ⟨q, 6, none⟩ = some a6 ∧ w.cell? ⟨q, 7, none⟩ = some a7) ∧
    w.frozen? ⟨q, 0, none⟩ = false ∧ w.frozen? ⟨q, 1, none⟩ = false ∧ w.frozen? ⟨q, 2, none⟩ = false ∧ w.frozen? ⟨q, 3, none⟩ = false ∧ w.frozen? ⟨q, 4, none⟩ = false ∧ w.frozen? ⟨q, 5, none⟩ = false ∧ w.frozen? ⟨q, 6, none⟩ = false ∧ w.frozen? ⟨q, 7, none⟩ = false :=
  ⟨⟨h.cell 0, h.cell 1, h.cell 2, h.cell 3, h.cell 4, h.cell 5, h.cell 6, h.cell 7⟩, h.frozen 0, h.frozen 1, h.frozen 2, h.frozen 3, h.frozen 4, h.frozen 5, h.frozen 6, h.frozen 7⟩
abbrev w8 (w : World) (q : Nat) (u0 u1 u2 u3 u4 u5 u6 u7 : Value) : World := (((((((w.setCell ⟨q, 0, none⟩ u0).setCell ⟨q, 1, none⟩ u1).setCell ⟨q, 2, none⟩ u2).setCell ⟨q, 3, none⟩ u3).setCell ⟨q, 4, none⟩ u4).setCell ⟨q, 5, none⟩ u5).setCell ⟨q, 6, none⟩ u6).setCell ⟨q, 7, none⟩ u7
theorem Blk.put8 {w : World} {q : Nat} {t : TypeId} {a0 a1 a2 a3 a4 a5 a6 a7 : Value} (h : Blk w q t #[a0, a1, a2, a3, a4, a5, a6, a7]) (u0 u1 u2 u3 u4 u5 u6 u7 : Value) : Blk (w8 w q u0 u1 u2 u3 u4 u5 u6 u7) q t #[u0, u1, u2, u3, u4, u5, u6, u7] := by
  have e0 : Blk _ q t #[u0, a1, a2, a3, a4, a5, a6, a7] := h.set_ 0 u0
  have e1 : Blk _ q t #[u0, u1, a2, a3, a4, a5, a6, a7] := e0.set_ 1 u1
  have e2 : Blk _ q t #[u0, u1, u2, a3, a4, a5, a6, a7] := e1.set_ 2 u2
  have e3 : Blk _ q t #[u0, u1, u2, u3, a4, a5, a6, a7] := e2.set_ 3 u3
  have e4 : Blk _ q t #[u0, u1, u2, u3, u4, a5, a6, a7] := e3.set_ 4 u4
  have e5 : Blk _ q t #[u0, u1, u2, u3, u4, u5, a6, a7] := e4.set_ 5 u5
  have e6 : Blk _ q t #[u0, u1, u2, u3, u4, u5, u6, a7] := e5.set_ 6 u6
  have e7 : Blk _ q t #[u0, u1, u2, u3, u4, u5, u6, u7] := e6.set_ 7 u7
  exact e7
theorem Kp.put8 {S : Nat → Prop} {a w : World} (h : Kp S a w) {q : Nat} (hq : q < a.heap.size → S q) (u0 u1 u2 u3 u4 u5 u6 u7 : Value) : Kp S a (w8 w q u0 u1 u2 u3 u4 u5 u6 u7) :=
  (((((((h.setCell hq u0).setCell hq u1).setCell hq u2).setCell hq u3).setCell hq u4).setCell hq u5).setCell hq u6).setCell hq u7
theorem ms_dv_mem {w : World} {B : Nat} {x : Ms} {V : MV} {C : List Nat} (h : Rows_ w B (mrows x V) C) : ∃ F, MemL w B (x.dv Ty0) [.string x.name, .int .i64 x.at_, V.f, V.o, V.m, V.e, V.r, V.n] F := by
  obtain ⟨F, hm, -⟩ := h.mem
  cases x with
  | mk name at_ flds onos msgs enums rngs nams =>
    refine ⟨[] ++ ([] ++ F), .cons _ _ _ _ _ _ (.at_ _ rfl) (.cons _ _ _ _ _ _ (.at_ _ rfl) ?_)⟩
    rw [msL_eq]
    exact hm
section
variable {b g : Nat} {cur : Array Value}
set_option maxRecDepth 100000 in
set_option maxHeartbeats 4000000 in
theorem readMessage_step (hX : Ext) (n deep : Nat) (hd : deep ≤ 9)
    (hI : deep ≤ 8 → ∀ (w : World) (l : List Wd), l.length ≤ n → Ps w b g cur l → (hdW l).k ≠ 0 → Calls Tryz.prog 178 #[.pointer (some ⟨b, 0, none⟩), .int .i64 ((deep : Int) + 1)] w (PzQ (msP dnK n (deep + 1) l) (Kb b w) (MdK (Ms.dv Ty0) w b g cur)))
    (hL : ∀ (l l' : List Wd) (x : Ms), msP dnK n (deep + 1) l = .ok x l' → l'.length ≤ l.tail.length)
    {w : World} {l : List Wd} (h : Ps w b g cur l) (hn : l.length ≤ n + 1) (hk0 : (hdW l).k ≠ 0) :
    Calls Tryz.prog 178 #[.pointer (some ⟨b, 0, none⟩), .int .i64 deep] w (PzQ (msP dnK (n + 1) deep l) (Kb b w) (MdK (Ms.dv Ty0) w b g cur)) := by
  obtain ⟨R, hR⟩ : ∃ R, R = msP dnK (n + 1) deep l := ⟨_, rfl⟩
  rw [← hR]
  rw [msP] at hR
  have HR := Lib.hid hR
  have H := Lib.hid h
  have HI := Lib.hid hI
  have HL := Lib.hid hL
  have hln : l.tail.tail.length ≤ n := by have := h.gd.len; have := tail_le l.tail; omega
  have HP := Lib.hid fun (W : World) (k : Kn w W) => pass_any (h.kn k) hk0
  clear h hR hI hL hn
  go_enter Tryz.func178, Tryz.ntmps178
  go_wp2_with fail
  refine (HP.out _ ((Kp.refl _ w).alloc _)).mono ?_
  rintro e w1 ⟨rfl, hp1, hk1⟩
  have hbw := H.out.lt
  have HP1 := Lib.hid hp1
  have HB1 := Lib.hid (Blk.kp (Blk.new w 49 #[.string ⟨#[]⟩, .int .i64 0, .slice none 0 0, .slice none 0 0, .slice none 0 0, .slice none 0 0, .slice none 0 0, .slice none 0 0]) hk1 (by omega))
  have HK1 := Lib.hid (show Kb b w w1 from ((Kp.refl _ w).alloc _).trans hk1)
  have HO := Lib.hid (of_any hp1 1 (by decide))
  clear hp1 hk1 HP
  unfold wV
  go_wp2_with fail
  refine HO.out.mono ?_
  intro e w2 hq
  cases hr : ofP 1 l.tail with
  | no p c =>
    have hnk : dnK l.tail = false := by
      unfold ofP at hr
      split at hr
      · cases hr
      · rename_i hk
        exact decide_eq_false hk
    rw [hr] at hq
    obtain ⟨rfl, hk⟩ := hq
    have HK2 := Lib.hid (HK1.out.trans hk)
    have HR2 := Lib.hid (show R = .no p c by rw [HR.out, if_neg (by rw [hnk]; simp), hr]; rfl)
    clear hk hr HR HO
    unfold Stp stopV
    go_wp2_with fail
    rw [HR2.out]
    exact ⟨rfl, rfl, HK2.out⟩
  | ok y l2 =>
    have hyk : dnK l.tail = true := by
      unfold ofP at hr
      split at hr
      · rename_i hk
        exact decide_eq_true hk
      · cases hr
    rw [hr] at hq
    obtain ⟨v, rfl, rfl, rfl, rfl, hp, hk⟩ := hq
    have HK2 := Lib.hid (HK1.out.trans hk)
    have hR2 := HR.out
    rw [hyk, hr] at hR2
    simp only [and_true, Pz.and] at hR2
    have HP2 := Lib.hid hp
    have HB2 := Lib.hid (HB1.out.kp hk (by omega))
    have hb2l := HB2.out.lt
    have hdz : (0 : Int) ≤ (deep : Int) := by omega
    by_cases hd8 : 8 < deep
    · rw [if_pos hd8] at hR2
      have HR2 := Lib.hid hR2
      have hdi : (8 : Int) < (deep : Int) := by omega
      generalize hdW l.tail = y at *
      clear hk hr HR HO hp hR2 HP1 HB1 HK1 hyk hd8
      unfold wV
      go_wp2_with fail
      rw [HR2.out]
      exact ⟨rfl, rfl, HK2.out.alloc _⟩
    · rw [if_neg hd8] at hR2
      have HR2 := Lib.hid hR2
      have hd8' : deep ≤ 8 := by omega
      have hdi : ¬ (8 : Int) < (deep : Int) := by omega
      generalize hdW l.tail = y at *
      clear hk hr HR HO hp hR2 HP1 HB1 HK1 hyk
      unfold wV
      go_wp2_with fail
      have HE3 := Lib.hid (show Mg ((w2.alloc (.cells #[.int .i64 y.k, .int .i64 y.p, .string y.t, .int .i64 y.n] 73)).alloc (.cells #[.pointer (some ⟨b, 0, none⟩), .string y.t, .int .i64 y.p, .slice none 0 0, .slice none 0 0, .slice none 0 0, .slice none 0 0, .slice none 0 0, .slice none 0 0, .int .i64 deep] 236)) b g cur (w2.heap.size + 1) (w2.heap.size + 2) deep ⟨y.t, y.p, [], [], [], [], [], []⟩ ⟨.slice none 0 0, .slice none 0 0, .slice none 0 0, .slice none 0 0, .slice none 0 0, .slice none 0 0⟩ [] l.tail.tail from
        ⟨(HP2.out.alloc _).alloc _, by have := Blk.new (w2.alloc (.cells #[.int .i64 y.k, .int .i64 y.p, .string y.t, .int .i64 y.n] 73)) 236 #[.pointer (some ⟨b, 0, none⟩), .string y.t, .int .i64 y.p, .slice none 0 0, .slice none 0 0, .slice none 0 0, .slice none 0 0, .slice none 0 0, .slice none 0 0, .int .i64 deep]; rwa [World.size_alloc] at this,
         Rows_.nils _ _ [(97, 10), (99, 2), (49, 8), (52, 5), (126, 3), (99, 2)], by have := HP2.out.lt; omega, by have := HP2.out.gb.lt; omega, by omega, by simp⟩)
      have HK3 := Lib.hid ((HK2.out.alloc (.cells #[.int .i64 y.k, .int .i64 y.p, .string y.t, .int .i64 y.n] 73)).alloc (.cells #[.pointer (some ⟨b, 0, none⟩), .string y.t, .int .i64 y.p, .slice none 0 0, .slice none 0 0, .slice none 0 0, .slice none 0 0, .slice none 0 0, .slice none 0 0, .int .i64 deep] 236))
      have HB3 := Lib.hid ((HB2.out.alloc (.cells #[.int .i64 y.k, .int .i64 y.p, .string y.t, .int .i64 y.n] 73)).alloc (.cells #[.pointer (some ⟨b, 0, none⟩), .string y.t, .int .i64 y.p, .slice none 0 0, .slice none 0 0, .slice none 0 0, .slice none 0 0, .slice none 0 0, .slice none 0 0, .int .i64 deep] 236))
      have hbe0 : w.heap.size < w2.heap.size + 1 := by omega
      generalize World.alloc (World.alloc w2 _) _ = wz at *
      generalize w2.heap.size + 1 = be at *
      have hcz : wz.cell? ⟨be, 0, none⟩ = some (.pointer (some ⟨b, 0, none⟩)) := HE3.out.blk.cell 0
      have hS0 : (fun W : World => W.cell? ⟨be, 0, none⟩ = some (.pointer (some ⟨b, 0, none⟩))) { wz with drawn := wz.drawn + 1 } := hcz
      have hbez : be < wz.heap.size := HE3.out.blk.lt
      clear HB2 HK2 HP2
      refine wp_region_held (S := fun W => W.cell? ⟨be, 0, none⟩ = some (.pointer (some ⟨b, 0, none⟩))) (by kernel_rfl) ?_
      refine wpAnyH_take (i := 0) (oi := { dst := some 26, op := Op.move (Operand.tmp 6), type := 234, pos := "message.go:25", after := #[], guard := none }) (v := .pointer (some ⟨be, 0, none⟩)) rfl (by kernel_rfl) (by kernel_rfl) (by kernel_rfl) (fun _ _ _ h => h) (.inl ⟨rfl, fun _ _ => rfl⟩) hS0 ?_
      simp only [Act.put, List.setIfInBounds_toArray, List.set_cons_zero, List.set_cons_succ]
      refine wpAnyH_take (i := 1) (oi := { dst := some 27, op := Op.nilCheck (Operand.tmp 26), type := 0, pos := "message.go:25", after := #[{ on := 0, ground := Ground.data }], guard := none }) (v := .pointer (some ⟨be, 0, none⟩)) rfl (by kernel_rfl) (by kernel_rfl) (by kernel_rfl) (fun _ _ _ h => h) (.inl ⟨rfl, fun _ _ => rfl⟩) hS0 ?_
      simp only [Act.put, List.setIfInBounds_toArray, List.set_cons_zero, List.set_cons_succ]
      refine wpAnyH_take (i := 2) (oi := { dst := some 28, op := Op.fieldAddr 236 (Operand.tmp 27) 0, type := 0, pos := "message.go:25", after := #[{ on := 1, ground := Ground.data }], guard := none }) (v := .pointer (some ⟨be, 0, none⟩)) rfl (by kernel_rfl) (by kernel_rfl) (by kernel_rfl) (fun _ _ _ h => h) (.inl ⟨rfl, fun _ _ => by go_simp⟩) hS0 ?_
      simp only [Act.put, List.setIfInBounds_toArray, List.set_cons_zero, List.set_cons_succ]
      refine wpAnyH_take (i := 3) (oi := { dst := some 29, op := Op.load 104 (Operand.tmp 28), type := 104, pos := "message.go:25", after := #[{ on := 2, ground := Ground.data }], guard := none }) (v := .pointer (some ⟨b, 0, none⟩)) rfl (by kernel_rfl) (by kernel_rfl) (by kernel_rfl) (fun _ _ _ h => h) (.inl ⟨rfl, fun W hW => by have hW2 : W.cell? ⟨be, 0, none⟩ = some (.pointer (some ⟨b, 0, none⟩)) := hW; simp [execOp, go_sem, Act.eval, hW2]⟩) hS0 ?_
      simp only [Act.put, List.setIfInBounds_toArray, List.set_cons_zero, List.set_cons_succ]
      refine wpAnyH_take (i := 4) (oi := { dst := some 30, op := Op.move (Operand.tmp 6), type := 234, pos := "message.go:25", after := #[], guard := none }) (v := .pointer (some ⟨be, 0, none⟩)) rfl (by kernel_rfl) (by kernel_rfl) (by kernel_rfl) (fun _ _ _ h => h) (.inl ⟨rfl, fun _ _ => rfl⟩) hS0 ?_
      simp only [Act.put, List.setIfInBounds_toArray, List.set_cons_zero, List.set_cons_succ]
      refine wpAnyH_take (i := 6) (oi := { dst := some 32, op := Op.move (Operand.tmp 6), type := 234, pos := "message.go:25", after := #[], guard := none }) (v := .pointer (some ⟨be, 0, none⟩)) rfl (by kernel_rfl) (by kernel_rfl) (by kernel_rfl) (fun _ _ _ h => h) (.inl ⟨rfl, fun _ _ => rfl⟩) hS0 ?_
      simp only [Act.put, List.setIfInBounds_toArray, List.set_cons_zero, List.set_cons_succ]
      refine wpAnyH_take (i := 7) (oi := { dst := some 33, op := Op.makeFunc (Fn.func 202) #[Operand.tmp 32] #[], type := 1, pos := "message.go:25", after := #[{ on := 6, ground := Ground.data }], guard := none }) (v := .func (.func 202) #[.pointer (some ⟨be, 0, none⟩)] #[]) rfl (by kernel_rfl) (by kernel_rfl) (by kernel_rfl) (fun _ _ _ h => h) (.inl ⟨rfl, fun _ _ => by go_simp⟩) hS0 ?_
      simp only [Act.put, List.setIfInBounds_toArray, List.set_cons_zero, List.set_cons_succ]
      refine wpAnyH_all (rs := [5]) (by kernel_rfl) (by simp) ?_
      intro i hi
      obtain rfl : i = 5 := by simpa using hi
      refine wpOp_of (o := { dst := some 31, op := Op.call { callee := Callee.value (Operand.func 201), args := #[Operand.tmp 30], argTypes := #[234] }, type := 158, pos := "message.go:25", after := #[{ on := 4, ground := Ground.data }], guard := none }) rfl rfl ?_
      go_simp
      go_at_call 201
      refine (mElements_any (w := wz.drew) hcz).mono ?_
      rintro e w5 ⟨rfl, xs, hm5, hlook, hk5', hsz5⟩
      have hk5 : Kn wz w5 := (Kp.refl _ wz).drew.trans hk5'
      have hsz5 : wz.heap.size < w5.heap.size := hsz5
      have hbz : b < wz.heap.size := HE3.out.ps.lt
      have hlb := HE3.out.lb
      have hlg := HE3.out.lg
      have hgz : g < wz.heap.size := HE3.out.ps.gb.lt
      have hS5 : w5.cell? ⟨be, 0, none⟩ = some (.pointer (some ⟨b, 0, none⟩)) := (HE3.out.kn hk5).blk.cell 0
      refine ⟨hS5, ?_⟩
      try simp only [Act.put, List.setIfInBounds_toArray, List.set_cons_zero, List.set_cons_succ]
      refine wpAnyH_all (rs := [8]) (by kernel_rfl) (by simp) ?_
      intro i hi
      obtain rfl : i = 8 := by simpa using hi
      refine wpOp_of (o := { dst := some 34, op := Op.call { callee := Callee.value (Operand.func 200), args := #[Operand.tmp 29, Operand.tmp 31, Operand.tmp 33], argTypes := #[104, 158, 1] }, type := 0, pos := "message.go:25", after := #[{ on := 3, ground := Ground.data }, { on := 5, ground := Ground.data }, { on := 7, ground := Ground.data }, { on := 5, ground := Ground.chain }], guard := none }) rfl rfl ?_
      go_simp
      go_at_call 200
      have hmb : (wz.drew).heap.size = wz.heap.size := rfl
      rw [hmb] at hm5
      have hI : MgI b g cur be w5.heap.size deep wz.heap.size xs w5 ⟨y.t, y.p, [], [], [], [], [], []⟩ l.tail.tail :=
        ⟨⟨⟨.slice none 0 0, .slice none 0 0, .slice none 0 0, .slice none 0 0, .slice none 0 0, .slice none 0 0⟩, [], HE3.out.ps.kn hk5, HE3.out.blk.kp hk5 (fun f => f), Rows_.nils _ _ [(97, 10), (99, 2), (49, 8), (52, 5), (126, 3), (99, 2)], hlb, hlg, by omega, Nat.le_refl _⟩, hm5⟩
      have hmb5 : wz.heap.size ≠ b ∧ wz.heap.size ≠ be ∧ wz.heap.size < w5.heap.size := ⟨by omega, by omega, hsz5⟩
      have HC := Lib.hid (block_le (msS (msP dnK n (deep + 1))) (fun W x l => MgI b g cur be w5.heap.size deep wz.heap.size xs W x l ∧ l.length ≤ n) (Kd b be w5.heap.size) (fun _ _ h => Kp.kd h) (fun _ _ _ h k => h.trans k) wz.heap.size (.func (.func 202) #[.pointer (some ⟨be, 0, none⟩)] #[])
        (fun W s l h => by obtain ⟨⟨⟨_, _, h⟩, _⟩, _⟩ := h; exact h.ps)
        (fun W W' s l l' h hp hk hle => by obtain ⟨⟨⟨V, C, h⟩, hm⟩, hl⟩ := h; exact ⟨⟨⟨V, C, h.next hp hk⟩, hm.kn hk hmb5.1⟩, by omega⟩)
        (fun W s l h hns => by
          obtain ⟨h, hl⟩ := h
          refine (mgElement_any hX hlook hmb5 h (fun y l1 e => HL.out l l1 y e) (fun hkl W V C hM => mMessage_any hM hkl hd8' fun W2 hp2 => HI.out hd8' W2 l hl hp2 hkl)).mono ?_
          intro e w' hq
          cases hr : msS (msP dnK n (deep + 1)) s l with
          | no p c => rw [hr] at hq; exact hq
          | ok s' l' =>
            rw [hr] at hq
            obtain ⟨v, h1, h2, h3, h4, h5⟩ := hq
            exact ⟨v, h1, h2, ⟨h3, by omega⟩, h4, h5⟩) ⟨y.t, y.p, [], [], [], [], [], []⟩ ⟨hI, hln⟩)
      have HB5 := Lib.hid (HB3.out.kp hk5 (fun f => f))
      have HK5 := Lib.hid (HK3.out.trans (Kn.kb hk5 b))
      have hbe5 : w.heap.size < be := by omega
      clear hm5 hlook hS5 hk5 hk5' hI HE3 HK3 HB3 hS0 hcz
      rw [← HR2.out] at HC
      refine HC.out.mono ?_
      intro e w6 hq
      cases R with
      | no p c =>
        obtain ⟨rfl, hk⟩ := hq
        have HK6 := Lib.hid (show Kb b w w6 from HK5.out.trans' hk (fun i e hi => by have := HK5.out.size; rcases e with e | e | e; exact e; omega; omega))
        exact ⟨rfl, rfl, HK6.out⟩
      | ok x' l' =>
        obtain ⟨v, rfl, rfl, ⟨⟨⟨⟨v1, v2, v3, v4, v5, v6⟩, C, hes⟩, hm⟩, -⟩, hk⟩ := hq
        have HK6 := Lib.hid (show Kb b w w6 from HK5.out.trans' hk (fun i e hi => by have := HK5.out.size; rcases e with e | e | e; exact e; omega; omega))
        have HB6 := Lib.hid (HB5.out.kp hk (by rintro (e | e | e) <;> omega))
        have HE6 := Lib.hid hes
        have hS6 : w6.cell? ⟨be, 0, none⟩ = some (.pointer (some ⟨b, 0, none⟩)) := hes.blk.cell 0
        clear HC HK5 HB5 hes hm hk
        refine ⟨hS6, wpAnyH_done (by kernel_rfl) ?_ _⟩
        obtain ⟨A1, c1, hv1, -, -⟩ := HE6.out.rows.val (j := 0) rfl
        obtain ⟨A2, c2, hv2, -, -⟩ := HE6.out.rows.val (j := 1) rfl
        obtain ⟨A3, c3, hv3, -, -⟩ := HE6.out.rows.val (j := 2) rfl
        obtain ⟨A4, c4, hv4, -, -⟩ := HE6.out.rows.val (j := 3) rfl
        obtain ⟨A5, c5, hv5, -, -⟩ := HE6.out.rows.val (j := 4) rfl
        obtain ⟨A6, c6, hv6, -, -⟩ := HE6.out.rows.val (j := 5) rfl
        simp only at hv1 hv2 hv3 hv4 hv5 hv6
        subst hv1 hv2 hv3 hv4 hv5 hv6
        have e1 : w6.cell? ⟨be, 1, none⟩ = some (.string x'.name) := HE6.out.blk.cell 1
        have e2 : w6.cell? ⟨be, 2, none⟩ = some (.int .i64 x'.at_) := HE6.out.blk.cell 2
        have e3 : w6.cell? ⟨be, 3, none⟩ = some (.slice A1 x'.flds.length c1) := HE6.out.blk.cell 3
        have e4 : w6.cell? ⟨be, 4, none⟩ = some (.slice A2 x'.onos.length c2) := HE6.out.blk.cell 4
        have e5 : w6.cell? ⟨be, 5, none⟩ = some (.slice A3 x'.msgs.length c3) := HE6.out.blk.cell 5
        have e6 : w6.cell? ⟨be, 6, none⟩ = some (.slice A4 x'.enums.length c4) := HE6.out.blk.cell 6
        have e7 : w6.cell? ⟨be, 7, none⟩ = some (.slice A5 x'.rngs.length c5) := HE6.out.blk.cell 7
        have e8 : w6.cell? ⟨be, 8, none⟩ = some (.slice A6 x'.nams.length c6) := HE6.out.blk.cell 8
        obtain ⟨⟨q0, q1, q2, q3, q4, q5, q6, q7⟩, f0, f1, f2, f3, f4, f5, f6, f7⟩ := HB6.out.eight_
        have hbe6 := HE6.out.blk.lt
        clear hS6
        go_wp2_with fail
        have hne : w.heap.size ≠ b := by omega
        have hng : w.heap.size ≠ g := by have := H.out.gb.lt; omega
        have P1 := Lib.hid (HE6.out.ps.kp (Kp.put8 (S := fun k => k = w.heap.size) (Kp.refl _ w6) (fun _ => rfl) (.string x'.name) (.int .i64 x'.at_) (.slice A1 x'.flds.length c1) (.slice A2 x'.onos.length c2) (.slice A3 x'.msgs.length c3) (.slice A4 x'.enums.length c4) (.slice A5 x'.rngs.length c5) (.slice A6 x'.nams.length c6)) (by omega) (by omega))
        have K1 := Lib.hid (HK6.out.put8 (q := w.heap.size) (fun h => by omega) (.string x'.name) (.int .i64 x'.at_) (.slice A1 x'.flds.length c1) (.slice A2 x'.onos.length c2) (.slice A3 x'.msgs.length c3) (.slice A4 x'.enums.length c4) (.slice A5 x'.rngs.length c5) (.slice A6 x'.nams.length c6))
        have R1 := Lib.hid (HE6.out.rows.kp (Kp.put8 (S := fun k => k = w.heap.size) (Kp.refl _ w6) (fun _ => rfl) (.string x'.name) (.int .i64 x'.at_) (.slice A1 x'.flds.length c1) (.slice A2 x'.onos.length c2) (.slice A3 x'.msgs.length c3) (.slice A4 x'.enums.length c4) (.slice A5 x'.rngs.length c5) (.slice A6 x'.nams.length c6)) (fun i e => by omega))
        obtain ⟨⟨z0, z1, z2, z3, z4, z5, z6, z7⟩, -⟩ := (HB6.out.put8 (.string x'.name) (.int .i64 x'.at_) (.slice A1 x'.flds.length c1) (.slice A2 x'.onos.length c2) (.slice A3 x'.msgs.length c3) (.slice A4 x'.enums.length c4) (.slice A5 x'.rngs.length c5) (.slice A6 x'.nams.length c6)).eight_
        unfold w8 at P1 K1 R1 z0 z1 z2 z3 z4 z5 z6 z7
        generalize World.setCell (World.setCell (World.setCell (World.setCell (World.setCell (World.setCell (World.setCell (World.setCell w6 _ _) _ _) _ _) _ _) _ _) _ _) _ _) _ _ = w7 at *
        obtain ⟨F, hm⟩ := ms_dv_mem R1.out
        have hbs : w.heap.size ≤ w5.heap.size := by omega
        exact bodyPost_ret (v := .agg #[.string x'.name, .int .i64 x'.at_, .slice A1 x'.flds.length c1, .slice A2 x'.onos.length c2, .slice A3 x'.msgs.length c3, .slice A4 x'.enums.length c4, .slice A5 x'.rngs.length c5, .slice A6 x'.nams.length c6]) (by simp [results, Tryz.results178, go_sem, z0, z1, z2, z3, z4, z5, z6, z7]) rfl ⟨_, rfl, _, _, rfl, hm.base hbs, P1.out, K1.out⟩
end
end
section
open Go.RowKit
set_option linter.unusedVariables false
set_option linter.unusedSimpArgs false

theorem msS_le {sub : List Wd → Pz Ms} {x x' : Ms} {l l' : List Wd} (hsub : ∀ y l1, sub l = .ok y l1 → l1.length ≤ l.tail.length) (h : msS sub x l = .ok x' l') : l'.length ≤ l.length := by
  unfold msS at h
  have ht := tail_le l.tail
  have ht0 := tail_le l
  split at h
  · injection h with _ h; rw [← h]; omega
  split at h
  · obtain ⟨v, l1, h1, k1⟩ := Pz.and_ok (roomP_ok h)
    injection k1 with _ k2
    subst k2
    have := hsub _ _ h1; omega
  split at h
  · obtain ⟨v, l1, h1, k1⟩ := Pz.and_ok (roomP_ok h)
    injection k1 with _ k2
    subst k2
    have := enP_len h1; omega
  split at h
  · have := onP_len h; omega
  split at h
  · obtain ⟨r, l1, h1, k1⟩ := Pz.and_ok h
    injection k1 with _ k2
    subst k2
    have := resP_len h1; omega
  split at h
  · obtain ⟨f, h1⟩ := addF_ok (roomP_ok h)
    have := typedP_len h1; omega
  split at h
  · obtain ⟨f, h1⟩ := addF_ok (roomP_ok h)
    have := typedP_len h1; omega
  split at h
  · obtain ⟨f, h1⟩ := addF_ok (roomP_ok h)
    have := mapP_len h1; omega
  split at h
  · cases h
  · obtain ⟨f, h1⟩ := addF_ok (roomP_ok h)
    have := typedP_len h1; omega
theorem msP_len (dn : List Wd → Bool) : ∀ (n deep : Nat) {l l' : List Wd} {x : Ms}, msP dn n deep l = .ok x l' → l'.length ≤ l.tail.length := by
  intro n
  induction n with
  | zero => intro deep l l' x h; cases h
  | succ n ih =>
    intro deep l l' x h
    rw [msP] at h
    split at h
    · cases h
    · obtain ⟨w, l1, h1, k1⟩ := Pz.and_ok h
      have e := (ofP_len h1).2
      subst e
      have := blkP_len (fun _ _ _ _ h => msS_le (fun y l1 e => ih _ e) h) k1
      have := tail_le l.tail
      omega
theorem readMessage_any (hX : Ext) {b g : Nat} {cur : Array Value} : ∀ (n deep : Nat), deep ≤ 9 → ∀ (w : World) (l : List Wd), l.length ≤ n → Ps w b g cur l → (hdW l).k ≠ 0 →
    Calls Tryz.prog 178 #[.pointer (some ⟨b, 0, none⟩), .int .i64 deep] w (PzQ (msP dnK n deep l) (Kb b w) (MdK (Ms.dv Ty0) w b g cur)) := by
  intro n
  induction n with
  | zero => intro deep hd w l hl h hk; have := h.gd.len; omega
  | succ n ih =>
    intro deep hd w l hl h hk
    exact readMessage_step hX n deep hd (fun hd8 w l hl h hk => by have := ih (deep + 1) (by omega) w l hl h hk; simpa using this) (fun l l' x e => msP_len dnK n (deep + 1) e) h hl hk
end
section
open Go.RowKit
set_option linter.unusedVariables false
set_option linter.unusedSimpArgs false

/-- The four lists of a file that is being read, as values. -/
structure FV where
  i : Value
  m : Value
  e : Value
  s : Value
abbrev rwIm (a : List Im) (v : Value) : Rw := ⟨37, 3, a.length, a.flatMap Im.dv, v⟩
abbrev rwSv (a : List Sv) (v : Value) : Rw := ⟨86, 3, a.length, a.flatMap (Sv.dv Ty0), v⟩
theorem rwIm_snoc (a : List Im) (x : Im) (v v' : Value) : (⟨(rwIm a v).t, (rwIm a v).k, (rwIm a v).n + 1, (rwIm a v).cs ++ x.dv, v'⟩ : Rw) = rwIm (a ++ [x]) v' := by
  simp [rwIm]
theorem rwSv_snoc (a : List Sv) (x : Sv) (v v' : Value) : (⟨(rwSv a v).t, (rwSv a v).k, (rwSv a v).n + 1, (rwSv a v).cs ++ x.dv Ty0, v'⟩ : Rw) = rwSv (a ++ [x]) v' := by
  simp [rwSv]
def frows (x : Tr) (V : FV) : List Rw := [rwIm x.imps V.i, rwMs x.msgs V.m, rwEn x.enums V.e, rwSv x.svcs V.s]
/-- A file that is being read, in block be. -/
structure Fg (w : World) (b g : Nat) (cur : Array Value) (be B : Nat) (x : Tr) (V : FV) (C : List Nat) (l : List Wd) : Prop where
  ps : Ps w b g cur l
  blk : Blk w be 154 #[.pointer (some ⟨b, 0, none⟩), .string x.pkg, V.i, V.m, V.e, V.s]
  rows : Rows_ w B (frows x V) C
  lb : b < be
  lg : g < be
  lB : be < B
  sz : B ≤ w.heap.size
section
variable {w w' : World} {b g be B : Nat} {cur : Array Value} {x : Tr} {V : FV} {C : List Nat} {l l' : List Wd}
theorem Fg.next (h : Fg w b g cur be B x V C l) (hp : Ps w' b g cur l') (hk : Kb b w w') : Fg w' b g cur be B x V C l' :=
  ⟨hp, h.blk.kp hk (by have := h.lb; omega), h.rows.kp hk (fun q e => by have := h.lb; have := h.lB; omega), h.lb, h.lg, h.lB, Nat.le_trans h.sz hk.size⟩
theorem Fg.kn (h : Fg w b g cur be B x V C l) (hk : Kn w w') : Fg w' b g cur be B x V C l := h.next (h.ps.kn hk) (Kn.kb hk b)
theorem Fg.alloc (h : Fg w b g cur be B x V C l) (o : Obj) : Fg (w.alloc o) b g cur be B x V C l := h.kn ((Kp.refl _ w).alloc o)
theorem Fg.drew (h : Fg w b g cur be B x V C l) : Fg w.drew b g cur be B x V C l := h.kn (Kp.refl _ w).drew
theorem Fg.ptr (h : Fg w b g cur be B x V C l) : w.cell? ⟨be, 0, none⟩ = some (.pointer (some ⟨b, 0, none⟩)) ∧ be < w.heap.size := ⟨h.blk.cell 0, h.blk.lt⟩
end
/-- What an element of a file leaves. -/
def FgK (w : World) (b g : Nat) (cur : Array Value) (be B : Nat) : Tr → List Wd → Value → World → Prop :=
  fun x l v w' => v = .tuple #[] ∧ (∃ V C, Fg w' b g cur be B x V C l) ∧ Kd b be B w w'
theorem Tryz.info86 : (Tryz.prog.info? 86).map (fun i => (i.zero, i.size, i.bytes)) = some (some (.agg #[.string ⟨#[]⟩, .int .i64 0, .slice none 0 0]), 3, 48) := by kernel_rfl
theorem Tryz.underlying25 : Tryz.prog.underlying 25 = some (.slice 86) := by kernel_rfl
theorem Tryz.info37 : (Tryz.prog.info? 37).map (fun i => (i.zero, i.size, i.bytes)) = some (some (.agg #[.string ⟨#[]⟩, .bool false, .int .i64 0]), 3, 32) := by kernel_rfl
theorem Tryz.underlying22 : Tryz.prog.underlying 22 = some (.slice 37) := by kernel_rfl
theorem Sv_vals {w : World} {B : Nat} {y : Sv} {vs : Array Value} {F : List Nat} (h : MemL w B (Sv.dv Ty0 y) vs.toList F) :
    ∃ A1 c1, vs = #[.string y.name, .int .i64 y.at_, .slice A1 y.rpcs.length c1] := by
  obtain ⟨l⟩ := vs
  simp only at h
  unfold Sv.dv Go.Proofs.YthmdaejlopjjoaaGreatDoor.sv iv lsD at h
  cases h with
  | cons _ a _ _ _ _ h1 h =>
  cases h with
  | cons _ b _ _ _ _ h2 h =>
  cases h with
  | cons _ c _ _ _ _ h3 h =>
  cases h
  cases h1
  cases h2
  obtain ⟨A1, c1, rfl⟩ := sl_val h3
  exact ⟨A1, c1, rfl⟩
end
end Go.Proofs.YthmdaejlopjjoaaGreatDoor
