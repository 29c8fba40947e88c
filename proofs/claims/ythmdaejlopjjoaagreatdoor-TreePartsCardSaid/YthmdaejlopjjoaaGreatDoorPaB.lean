/-
  tree: names.
  tree: reserve.
  tree: an enum that is being read.
  tree: readers go on. No program.
  tree: elements in braces; the words that are left grow fewer.
-/
import Derived.Test.YthmdaejlopjjoaaGreatDoorPaA
import Derived.Deep.RegionHeld2
namespace Go.Proofs.YthmdaejlopjjoaaGreatDoor
section
open Go.RowKit
set_option linter.unusedVariables false
set_option linter.unusedSimpArgs false

theorem Tryz.info99 : (Tryz.prog.info? 99).map (fun i => (i.zero, i.size, i.bytes)) = some (some (.agg #[.string ⟨#[]⟩, .int .i64 0]), 2, 24) := by kernel_rfl
theorem Tryz.underlying46 : Tryz.prog.underlying 46 = some (.slice 99) := by kernel_rfl
theorem Tx.mem (w : World) (B : Nat) (x : Tx) : MemL w B x.dv #[.string x.s, .int .i64 x.at_].toList [] :=
  MemL.plain w B [.string x.s, .int .i64 x.at_] (by simp [Value.oneCell'])
/-- What other packages' functions answer. -/
structure Ext : Prop where
  ident : ∀ (s : ByteArray) (W : World), s.size ≤ 65536 → Calls Tryz.prog 168 #[.string s] W fun e W' => e = .returned (.bool (identL s.data.toList)) ∧ Kn W W'
  path : ∀ (s : ByteArray) (W : World), s.size ≤ 65536 → Calls Tryz.prog 12 #[.string s] W fun e W' => e = .returned (.bool (pathL s.data.toList)) ∧ Kn W W'
section
variable {w : World} {b g : Nat} {cur : Array Value} {l : List Wd}
/-- A row of names. -/
abbrev rwTx (a : List Tx) (v : Value) : Rw := ⟨99, 2, a.length, a.flatMap Tx.dv, v⟩
theorem rwTx_snoc (a : List Tx) (x : Tx) (v v' : Value) : (⟨(rwTx a v).t, (rwTx a v).k, (rwTx a v).n + 1, (rwTx a v).cs ++ x.dv, v'⟩ : Rw) = rwTx (a ++ [x]) v' := by
  simp [rwTx]
theorem ofP_len {k : Nat} {l l' : List Wd} {x : Wd} (h : ofP k l = .ok x l') : x = hdW l ∧ l' = l.tail := by
  unfold ofP at h
  split at h
  · injection h with h1 h2; exact ⟨h1.symm, h2.symm⟩
  · cases h
theorem litP_len {p : ByteArray → Bool} {l l' : List Wd} {x : Wd} (h : litP p l = .ok x l') : x = hdW l ∧ l' = l.tail := by
  unfold litP at h
  split at h
  · exact ofP_len h
  · cases h
/-- The loop of names. -/
structure NmR (w : World) (b g : Nat) (cur : Array Value) (B j : Nat) (rs : List Rw) (C : List Nat) (R : Pz (List Tx)) (v : Value) (a : List Tx) (l : List Wd) (wr : World) : Prop where
  ps : Ps wr b g cur l
  kp : Kc b B w wr
  rows : Rows_ wr B (rs.set j (rwTx a v)) C
  fin : ∃ n, l.length < n ∧ R = namsF n a l
set_option maxRecDepth 100000 in
set_option maxHeartbeats 1000000 in
theorem names_any (hX : Ext) (h : Ps w b g cur l) (B j : Nat) (rs : List Rw) (C : List Nat) (a0 : List Tx) (v0 : Value) (hr : Rows_ w B rs C) (hj : rs[j]? = some (rwTx a0 v0)) (hB : B ≤ w.heap.size) (hb : b < B) (hg : g < B) (n0 : Nat) (hn0 : l.length < n0) :
    Calls Tryz.prog 249 #[.pointer (some ⟨b, 0, none⟩), v0] w
    (PzQ (namsF n0 a0 l) (Kc b B w) fun a l' v w' => Rows_ w' B (rs.set j (rwTx a v)) C ∧ Ps w' b g cur l' ∧ Kc b B w w') := by
  obtain ⟨i0, hi0, hz0, hz1, hz2⟩ := info_parts Tryz.info99
  obtain ⟨R, hR⟩ : ∃ R, R = namsF n0 a0 l := ⟨_, rfl⟩
  rw [← hR]
  have HX := Lib.hid hX
  have HST := Lib.hid (show NmR w b g cur B j rs C R v0 a0 l w from
    ⟨h, Kp.refl _ w, by rw [set_same hj]; exact hr, n0, hn0, hR⟩)
  have HJ := Lib.hid (fun (a : List Tx) (v : Value) => show (rs.set j (rwTx a v))[j]? = some (rwTx a v) from set_at hj _)
  obtain ⟨A0, c0, hv0, _⟩ := hr.val hj
  simp only at hv0
  subst hv0
  clear h hR hj hr hX
  go_enter Tryz.func249, Tryz.ntmps249
  go_wp2_with fail
  go_loopg [1] (l.length + 1) (fun gg v wr => ∃ (a : List Tx) (l' : List Wd), gg = l'.length + 1 ∧ NmR w b g cur B j rs C R v a l' wr)
  case atStart => exact ⟨_, _, rfl, HST.out⟩
  case round =>
    clear HST
    obtain ⟨a, l', rfl, hrel⟩ := hrel
    have HREL := Lib.hid hrel
    obtain ⟨A1, c1, hv1, hc1, hc2⟩ := hrel.rows.val (HJ.out a _)
    simp only at hv1 hc1
    subst hv1
    obtain ⟨n, hn, hfin⟩ := hrel.fin
    obtain ⟨n, rfl⟩ : ∃ k, n = k + 1 := ⟨n - 1, by omega⟩
    rw [namsF] at hfin
    unfold roomP at hfin
    have HFIN := Lib.hid hfin
    have HM := Lib.hid (room_any hrel.ps a.length 64)
    clear hfin hrel
    go_wp2_with fail
    refine HM.out.mono ?_
    rintro e w1 ⟨h1, hk1⟩
    have HKB := Lib.hid (HREL.out.kp.trans (Kp.mono hk1 (fun _ f _ => f.elim) : Kc b B wr w1))
    have HP1 := Lib.hid (HREL.out.ps.kn hk1)
    have HR1 := Lib.hid (HREL.out.rows.stays hk1.size fun q _ hq => hk1.block q hq (fun f => f))
    rcases h1 with ⟨hge, rfl⟩ | ⟨hlt, rfl⟩
    · have HR := Lib.hid (show R = .no (hdW l').p 5 by rw [HFIN.out, if_pos hge])
      clear hk1 hge HFIN HREL HM
      unfold Stp stopV
      go_wp2_with fail
      rw [HR.out]
      exact ⟨rfl, rfl, HKB.out⟩
    · have hfin := HFIN.out
      rw [if_neg hlt] at hfin
      have HFI := Lib.hid hfin
      have hal : a.length ≤ 1000000 := by omega
      have hszB : B ≤ w1.heap.size ∧ w.heap.size ≤ w1.heap.size := ⟨by have := HKB.out.size; omega, HKB.out.size⟩
      clear hfin HFIN HREL HM hk1 hlt
      have HL := Lib.hid (literal_any HP1.out 168 (.inr (.inr rfl)) (fun s => identL s.data.toList) HX.out.ident)
      go_wp2_with fail
      refine HL.out.mono ?_
      intro e w2 hq
      cases hr : litP (fun s => identL s.data.toList) l' with
      | no q c =>
        rw [hr] at hq
        obtain ⟨rfl, hk⟩ := hq
        have HK2 := Lib.hid (HKB.out.trans (hk.mono fun _ e _ => Or.inl e : Kc b B w1 w2))
        have HR := Lib.hid (show R = .no q c by rw [HFI.out, hr]; rfl)
        clear hk hr HFI HL
        unfold Stp stopV
        go_wp2_with fail
        rw [HR.out]
        exact ⟨rfl, rfl, HK2.out⟩
      | ok x l2 =>
        rw [hr] at hq
        obtain ⟨v, rfl, rfl, rfl, rfl, hp, hk⟩ := hq
        have hR2 := HFI.out
        rw [hr] at hR2
        simp only [Pz.and] at hR2
        have HR2 := Lib.hid hR2
        have HP2 := Lib.hid hp
        have HK2 := Lib.hid (HKB.out.trans (hk.mono fun _ e _ => Or.inl e : Kc b B w1 w2))
        have HRW2 := Lib.hid (HR1.out.kp hk (fun g e => by omega))
        have hs2 := hk.size
        generalize hx : hdW l' = x at *
        clear hp hk hr HFI hR2 HKB HR1 HP1 HL
        have HRW3 := Lib.hid ((HRW2.out.alloc (.cells #[.int .i64 x.k, .int .i64 x.p, .string x.t, .int .i64 x.n] 73)).alloc (.cells #[.string x.t, .int .i64 x.p] 99))
        have HBK := Lib.hid (show Blk ((w2.alloc (.cells #[.int .i64 x.k, .int .i64 x.p, .string x.t, .int .i64 x.n] 73)).alloc (.cells #[.string x.t, .int .i64 x.p] 99)) (w2.heap.size + 1) 99 #[.string x.t, .int .i64 x.p] by
          have := Blk.new (w2.alloc (.cells #[.int .i64 x.k, .int .i64 x.p, .string x.t, .int .i64 x.n] 73)) 99 #[.string x.t, .int .i64 x.p]
          rwa [World.size_alloc] at this)
        have hBz : B ≤ ((w2.alloc (.cells #[.int .i64 x.k, .int .i64 x.p, .string x.t, .int .i64 x.n] 73)).alloc (.cells #[.string x.t, .int .i64 x.p] 99)).heap.size := by simp; omega
        unfold wV
        go_wp2_with (at_builtin; refine wpList_append_rows _ rfl _ _ 46 rfl HRW3.out j _ (HJ.out a _) i0 _ 24 Tryz.underlying46 hi0 hz0 hz1 hz2 rfl (Nat.succ_pos 1) rfl (w2.heap.size + 1) rfl _ (Tx.dv ⟨x.t, x.p⟩) HBK.out rfl (Tx.mem _ B ⟨x.t, x.p⟩) (by intro q hq; cases hq) hal (by decide) hBz ?_; intro v5 w5 ho5 hg5 hv5; have HO5 := Lib.hid ho5; have HG5 := Lib.hid hg5; have HV5 := Lib.hid hv5; clear ho5 hg5 hv5)
        have hown : ∀ q, (Value.slice A1 a.length c1).ownBlock = some q → B ≤ q := fun q hq => (HRW2.out.own_mem (HJ.out a _) hq).2.1
        have hrw5 := HO5.out
        rw [List.set_set, List.append_nil, rwTx_snoc a ⟨x.t, x.p⟩ (.slice none 0 0) v5] at hrw5
        have HP5 := Lib.hid (((HP2.out.alloc _).alloc _).kp (Kp.of_grown HG5.out) (fun e => by have := hown b e.symm; omega) (fun e => by have := hown g e.symm; omega))
        have HK5 := Lib.hid (((HK2.out.alloc _).alloc _).grown HG5.out fun q hq _ => Or.inr (hown q hq))
        have HRW5 := Lib.hid hrw5
        obtain ⟨A5, c5, hv5, hc5, hc5'⟩ := hrw5.val (HJ.out _ _)
        simp only [List.length_append, List.length_cons, List.length_nil, Nat.zero_add] at hv5 hc5
        have HT := Lib.hid (takes_any HP5.out kComma (by decide))
        have hln : l'.tail.length ≤ l'.length := by simp
        clear hown hrw5 HO5 HG5 HV5 HRW2 HP2 HK2 HRW3 HBK hBz
        subst hv5
        refine HT.out.mono ?_
        rintro e w6 ⟨h1, hk6⟩
        have HK6 := Lib.hid (HK5.out.trans (hk6.mono fun _ e _ => Or.inl e : Kc b B w5 w6))
        have HRW6 := Lib.hid (HRW5.out.kp hk6 (fun g e => by omega))
        rcases h1 with ⟨hq, rfl, hp6, hg6⟩ | ⟨hq, rfl, hp6⟩
        · have hR3 := HR2.out
          rw [if_pos hq] at hR3
          have HST := Lib.hid (NmR.mk hp6 HK6.out HRW6.out ⟨n, by have := HP5.out.gd.len; omega, hR3⟩)
          have hM : l'.tail.tail.length + 1 < l'.length + 1 := by have := HP5.out.gd.len; omega
          clear hR3 hp6 hk6 hg6 HR2 HT hq HRW6 HK6 HRW5
          go_wp2_with fail
          go_roundg (l'.tail.tail.length + 1)
          case measure => exact hM
          case rel => exact ⟨_, _, rfl, HST.out⟩
        · have hR3 := HR2.out
          rw [if_neg hq] at hR3
          have HR3 := Lib.hid hR3
          have HP6 := Lib.hid hp6
          clear hR3 hp6 hk6 HR2 HT hq HRW5
          go_wp2_with fail
          rw [HR3.out]
          exact bodyPost_ret (v := .slice A5 (a.length + 1) c5) (by simp [results, Tryz.results249, go_sem]) rfl ⟨_, rfl, HRW6.out, HP6.out, HK6.out⟩
end
end
section
open Go.RowKit
set_option linter.unusedVariables false
set_option linter.unusedSimpArgs false

section
variable {w : World} {b g : Nat} {cur : Array Value} {l : List Wd}
/-- What reserve answers. -/
def RsK (w : World) (b g : Nat) (cur : Array Value) (B j1 j2 : Nat) (rs : List Rw) (C : List Nat) : List Sp × List Tx → List Wd → Value → World → Prop :=
  fun r l' v w' => ∃ v1 v2, v = .tuple #[v1, v2] ∧ Rows_ w' B ((rs.set j1 (rwSp r.1 v1)).set j2 (rwTx r.2 v2)) C ∧ Ps w' b g cur l' ∧ Kc b B w w'
theorem Kp.kc {b B : Nat} {w w' : World} (h : Kb b w w') : Kc b B w w' := h.mono fun _ e _ => .inl e
theorem Kn.kc {b B : Nat} {w w' : World} (h : Kn w w') : Kc b B w w' := h.mono fun _ f _ => f.elim
set_option maxRecDepth 100000 in
set_option maxHeartbeats 1000000 in
theorem reserve_any (hX : Ext) (h : Ps w b g cur l) (hk0 : (hdW l).k ≠ 0) (max : Int) (sg : Bool) (B j1 j2 : Nat) (hjj : j1 ≠ j2) (rs : List Rw) (C : List Nat) (a0 : List Sp) (n0 : List Tx) (v1 v2 : Value) (hr : Rows_ w B rs C)
    (hj1 : rs[j1]? = some (rwSp a0 v1)) (hj2 : rs[j2]? = some (rwTx n0 v2)) (hB : B ≤ w.heap.size) (hb : b < B) (hg : g < B) :
    Calls Tryz.prog 232 #[.pointer (some ⟨b, 0, none⟩), v1, v2, .agg #[.int .i64 max, .bool sg]] w (PzQ (resP max sg a0 n0 l) (Kc b B w) (RsK w b g cur B j1 j2 rs C)) := by
  obtain ⟨R, hR⟩ : ∃ R, R = resP max sg a0 n0 l := ⟨_, rfl⟩
  rw [← hR]
  unfold resP at hR
  have HR := Lib.hid hR
  have HX := Lib.hid hX
  have HP0 := Lib.hid (pass_any (h.alloc (.cells #[.int .i64 max, .bool sg] 262)) hk0)
  have HRW := Lib.hid (hr.alloc (.cells #[.int .i64 max, .bool sg] 262))
  have HJ1 := Lib.hid hj1
  have HJ2 := Lib.hid hj2
  have hln := h.gd.len
  have f0 := fld0
  have hbw := h.lt
  obtain ⟨A1, c1, hv1, _⟩ := hr.val hj1
  obtain ⟨A2, c2, hv2, _⟩ := hr.val hj2
  simp only at hv1 hv2
  subst hv1 hv2
  clear h hR hr hX hj1 hj2
  go_enter Tryz.func232, Tryz.ntmps232
  go_wp2_with fail
  refine HP0.out.mono ?_
  rintro e w1 ⟨rfl, hp1, hk1⟩
  have HB1 := Lib.hid ((Blk.new w 262 #[.int .i64 max, .bool sg]).kp hk1 (by omega))
  have HRW1 := Lib.hid (HRW.out.kp hk1 (fun q e => by omega))
  have HK1 := Lib.hid (show Kb b w w1 from ((Kp.refl _ w).alloc _).trans hk1)
  have HP1 := Lib.hid hp1
  have HN := Lib.hid (next_any hp1)
  have hsz1 := HK1.out.size
  generalize hx : hdW l.tail = x at *
  clear hp1 hk1 HP0 HRW
  unfold wV
  go_wp2_with fail
  refine HN.out.mono ?_
  rintro e w2 ⟨rfl, hk2⟩
  have HP2 := Lib.hid (HP1.out.kn hk2)
  have HRW2 := Lib.hid (HRW1.out.kp hk2 (fun q e => e.elim))
  have HK2 := Lib.hid (HK1.out.trans (Kn.kb hk2 b))
  have hbb2 := HB1.out.kp hk2 (fun f => f)
  have hsz2 := HK2.out.size
  clear hk2 HN HP1 HRW1 HK1 HB1
  unfold wV
  by_cases h3 : x.k = 3
  · have h3' : ((x.k : Nat) : Int) = 3 := by omega
    have hR2 := HR.out
    rw [if_pos h3] at hR2
    have HR2 := Lib.hid hR2
    have HC := Lib.hid (names_any HX.out HP2.out B j2 rs C n0 _ HRW2.out HJ2.out (by omega) hb hg l.length (by omega))
    clear HR hR2 h3 hbb2
    go_wp2_with fail
    refine HC.out.mono ?_
    intro e w3 hq
    cases hr : namsF l.length n0 l.tail with
    | no q c =>
      rw [hr] at hq
      obtain ⟨rfl, hk⟩ := hq
      have HK3 := Lib.hid ((Kp.kc HK2.out : Kc b B w w2).trans hk)
      have HR3 := Lib.hid (show R = .no q c by rw [HR2.out, hr]; rfl)
      clear hk hr HR2 HC
      unfold Stp stopV
      go_wp2_with fail
      rw [HR3.out]
      exact ⟨rfl, rfl, HK3.out⟩
    | ok n1 l3 =>
      rw [hr] at hq
      obtain ⟨v, rfl, hrw, hp, hk⟩ := hq
      have HK3 := Lib.hid ((Kp.kc HK2.out : Kc b B w w2).trans hk)
      have hR3 := HR2.out
      rw [hr] at hR3
      simp only [Pz.and] at hR3
      have HR3 := Lib.hid hR3
      have HRW3 := Lib.hid (hrw.alloc (.cells #[.string kSemi] 9))
      have hbw3 := hp.lt
      have HE := Lib.hid (expect_any [kSemi] (by decide) (hp.alloc (.cells #[.string kSemi] 9)) w3.heap.size (Blk.new w3 9 _) (by omega) (by decide))
      obtain ⟨A3, c3, hv3, _⟩ := hrw.val (set_at HJ2.out _)
      simp only at hv3
      subst hv3
      clear hr hrw hp hk HR2 HC hR3
      go_wp2_with fail
      refine HE.out.mono ?_
      intro e w4 hq
      cases hr : expP [kSemi] l3 with
      | no q c =>
        rw [hr] at hq
        obtain ⟨rfl, hk⟩ := hq
        have HK4 := Lib.hid ((HK3.out.alloc (.cells #[.string kSemi] 9)).trans (Kp.kc hk))
        have HR4 := Lib.hid (show R = .no q c by rw [HR3.out, hr])
        clear hk hr HR3 HE
        unfold Stp stopV
        go_wp2_with fail
        rw [HR4.out]
        exact ⟨rfl, rfl, HK4.out⟩
      | ok u l4 =>
        rw [hr] at hq
        obtain ⟨v, rfl, rfl, hp, hk⟩ := hq
        have HK4 := Lib.hid ((HK3.out.alloc (.cells #[.string kSemi] 9)).trans (Kp.kc hk))
        have HR4 := Lib.hid (show R = .ok (a0, n1) l4 by rw [HR3.out, hr])
        have hrw4 := HRW3.out.kp hk (fun q e => by omega)
        have HP4 := Lib.hid hp
        have HRW4 := Lib.hid (show Rows_ w4 B ((rs.set j1 (rwSp a0 (.slice A1 a0.length c1))).set j2 (rwTx n1 (.slice A3 n1.length c3))) C by rw [set_same HJ1.out]; exact hrw4)
        clear hk hr HR3 HE hp hrw4
        go_wp2_with fail
        rw [HR4.out]
        exact bodyPost_ret (v := .tuple #[.slice A1 a0.length c1, .slice A3 n1.length c3]) (by simp [results, Tryz.results232, go_sem]) rfl ⟨_, rfl, _, _, rfl, HRW4.out, HP4.out, HK4.out⟩
  · have h3' : ¬ ((x.k : Nat) : Int) = 3 := by omega
    have hR2 := HR.out
    rw [if_neg h3] at hR2
    have HR2 := Lib.hid hR2
    have HC := Lib.hid (ranges_any HP2.out max sg B j1 rs C a0 _ HRW2.out HJ1.out (by omega) hb hg l.length (by omega))
    obtain ⟨m0, m1, y0, y1⟩ := hbb2.two_
    clear HR hR2 h3 hbb2
    go_wp2_with fail
    refine HC.out.mono ?_
    intro e w3 hq
    clear m0 m1 y0 y1
    cases hr : rngsF max sg l.length a0 l.tail with
    | no q c =>
      rw [hr] at hq
      obtain ⟨rfl, hk⟩ := hq
      have HK3 := Lib.hid ((Kp.kc HK2.out : Kc b B w w2).trans hk)
      have HR3 := Lib.hid (show R = .no q c by rw [HR2.out, hr]; rfl)
      clear hk hr HR2 HC
      unfold Stp stopV
      go_wp2_with fail
      rw [HR3.out]
      exact ⟨rfl, rfl, HK3.out⟩
    | ok n1 l3 =>
      rw [hr] at hq
      obtain ⟨v, rfl, hrw, hp, hk⟩ := hq
      have HK3 := Lib.hid ((Kp.kc HK2.out : Kc b B w w2).trans hk)
      have hR3 := HR2.out
      rw [hr] at hR3
      simp only [Pz.and] at hR3
      have HR3 := Lib.hid hR3
      have HRW3 := Lib.hid (hrw.alloc (.cells #[.string kSemi] 9))
      have hbw3 := hp.lt
      have HE := Lib.hid (expect_any [kSemi] (by decide) (hp.alloc (.cells #[.string kSemi] 9)) w3.heap.size (Blk.new w3 9 _) (by omega) (by decide))
      obtain ⟨A3, c3, hv3, _⟩ := hrw.val (set_at HJ1.out _)
      simp only at hv3
      subst hv3
      clear hr hrw hp hk HR2 HC hR3
      go_wp2_with fail
      refine HE.out.mono ?_
      intro e w4 hq
      cases hr : expP [kSemi] l3 with
      | no q c =>
        rw [hr] at hq
        obtain ⟨rfl, hk⟩ := hq
        have HK4 := Lib.hid ((HK3.out.alloc (.cells #[.string kSemi] 9)).trans (Kp.kc hk))
        have HR4 := Lib.hid (show R = .no q c by rw [HR3.out, hr])
        clear hk hr HR3 HE
        unfold Stp stopV
        go_wp2_with fail
        rw [HR4.out]
        exact ⟨rfl, rfl, HK4.out⟩
      | ok u l4 =>
        rw [hr] at hq
        obtain ⟨v, rfl, rfl, hp, hk⟩ := hq
        have HK4 := Lib.hid ((HK3.out.alloc (.cells #[.string kSemi] 9)).trans (Kp.kc hk))
        have HR4 := Lib.hid (show R = .ok (n1, n0) l4 by rw [HR3.out, hr])
        have hrw4 := HRW3.out.kp hk (fun q e => by omega)
        have HP4 := Lib.hid hp
        have HRW4 := Lib.hid (show Rows_ w4 B ((rs.set j1 (rwSp n1 (.slice A3 n1.length c3))).set j2 (rwTx n0 (.slice A2 n0.length c2))) C by
          rw [set_same (rs := rs.set j1 _) (by rw [List.getElem?_set_ne hjj]; exact HJ2.out)]; exact hrw4)
        clear hk hr HR3 HE hp hrw4
        go_wp2_with fail
        rw [HR4.out]
        exact bodyPost_ret (v := .tuple #[.slice A3 n1.length c3, .slice A2 n0.length c2]) (by simp [results, Tryz.results232, go_sem]) rfl ⟨_, rfl, _, _, rfl, HRW4.out, HP4.out, HK4.out⟩
end
end
section
open Go.RowKit
set_option linter.unusedVariables false
set_option linter.unusedSimpArgs false

section
variable {P : Program} (w : World)
theorem step_append_rows {ops : Array Oper} {o : Oper} {a : Act} {K : Act → World → Prop} {Q : Exit → Act → World → Prop} {E : Prop} (hgd : o.guard = none) (s x : Operand) (t : TypeId)
    (ho : o.op = .call { callee := .builtin .append, args := #[s, x], argTypes := #[t, t] }) {B : Nat} {rs : List Rw} {C G : List Nat} (h : Rows_ w B rs C) (j : Nat) (r : Rw) (hj : rs[j]? = some r)
    (i : TypeInfo) (z : Value) (bytes : Nat) (ht : P.underlying t = some (.slice r.t)) (hi : P.info? r.t = some i) (hz : i.zero = some z) (hsize : i.size = r.k) (hby : i.bytes = bytes) (hzs : z.cells.size = r.k) (hk : 0 < r.k)
    (hs : a.eval s = r.v) (b : Nat) (hx : a.eval x = .slice (some ⟨b, 0, none⟩) 1 1) (cs : Array Value) (ds : List Dv) (hb : Blk w b r.t cs) (hcs : cs.size = r.k) (hm : MemL w B ds cs.toList G) (hG : ∀ g ∈ G, g ∉ owns rs)
    (hlen : r.n ≤ 1000000) (hbytes : bytes ≤ 1000000) (hB : B ≤ w.heap.size)
    (hq : ∀ v' w', Rows_ w' B (rs.set j ⟨r.t, r.k, r.n + 1, r.cs ++ ds, v'⟩) (C ++ G) → w.grownBy w' r.v.ownBlock → (v'.ownBlock = r.v.ownBlock ∨ v'.ownBlock = some w.heap.size) → K (a.put o.dst v') w') :
    if Region.wanted o (yielded ops a.tmps) = true then Oper.wp P o a w K Q else E := by
  have hw : Region.wanted o (yielded ops a.tmps) = true := by simp [Region.wanted, hgd]
  rw [if_pos hw]
  exact wp_append_rows w s x t ho h j r hj i z bytes ht hi hz hsize hby hzs hk hs b hx cs ds hb hcs hm hG hlen hbytes hB hq
end
theorem Tryz.info55 : (Tryz.prog.info? 55).map (fun i => (i.zero, i.size, i.bytes)) = some (some (.agg #[.string ⟨#[]⟩, .int .i64 0, .int .i64 0]), 3, 32) := by kernel_rfl
theorem Tryz.underlying50 : Tryz.prog.underlying 50 = some (.slice 55) := by kernel_rfl
theorem Vl.mem (w : World) (B : Nat) (x : Vl) : MemL w B x.dv #[.string x.name, .int .i64 x.num, .int .i64 x.at_].toList [] :=
  MemL.plain w B [.string x.name, .int .i64 x.num, .int .i64 x.at_] (by simp [Value.oneCell'])
/-- A row of values. -/
abbrev rwVl (a : List Vl) (v : Value) : Rw := ⟨55, 3, a.length, a.flatMap Vl.dv, v⟩
theorem rwVl_snoc (a : List Vl) (x : Vl) (v v' : Value) : (⟨(rwVl a v).t, (rwVl a v).k, (rwVl a v).n + 1, (rwVl a v).cs ++ x.dv, v'⟩ : Rw) = rwVl (a ++ [x]) v' := by
  simp [rwVl]
theorem Rows_.keep {w w' : World} {B : Nat} {rs : List Rw} {C : List Nat} (h : Rows_ w B rs C) (hs : w.heap.size ≤ w'.heap.size) (h1 : ∀ g, g ∈ owns rs ∨ g ∈ C → w'.heap[g]? = w.heap[g]?) : Rows_ w' B rs C := by
  refine ⟨fun r hr => ?_, h.two, h.far, fun g hg => ⟨(h.lt g hg).1, by have := (h.lt g hg).2; omega⟩⟩
  obtain ⟨xs, F, ho, hm, hF⟩ := h.row r hr
  exact ⟨xs, F, ownsRow_stays ho fun g e => h1 g (.inl (List.mem_filterMap.mpr ⟨r, hr, e⟩)), hm.stays fun g hg => h1 g (.inr (hF g hg)), hF⟩
theorem Rows_.all_lt {w : World} {B : Nat} {rs : List Rw} {C : List Nat} (h : Rows_ w B rs C) : ∀ g, g ∈ owns rs ∨ g ∈ C → B ≤ g ∧ g < w.heap.size := fun g hg => hg.elim (h.own_lt g) (h.lt g)
theorem keep3 (W : World) {i k : Nat} (h : i ≠ k) (u1 u2 u3 : Value) : (((W.setCell ⟨k, 0, none⟩ u1).setCell ⟨k, 1, none⟩ u2).setCell ⟨k, 2, none⟩ u3).heap[i]? = W.heap[i]? :=
  (Below.heap_setCell _ _ _ _ h).trans ((Below.heap_setCell _ _ _ _ h).trans (Below.heap_setCell _ _ _ _ h))
/-- An enum that is being read, in block be. -/
structure Es (w : World) (b g : Nat) (cur : Array Value) (be B : Nat) (x : En) (v1 v2 v3 : Value) (C : List Nat) (l : List Wd) : Prop where
  ps : Ps w b g cur l
  blk : Blk w be 239 #[.pointer (some ⟨b, 0, none⟩), .string x.name, .int .i64 x.at_, v1, v2, v3]
  rows : Rows_ w B [rwVl x.vals v1, rwSp x.rngs v2, rwTx x.nams v3] C
  lb : b < be
  lg : g < be
  lB : be < B
  sz : B ≤ w.heap.size
theorem Es.next {w w' : World} {b g be B : Nat} {cur : Array Value} {x : En} {v1 v2 v3 : Value} {C : List Nat} {l l' : List Wd} (h : Es w b g cur be B x v1 v2 v3 C l) (hp : Ps w' b g cur l') (hk : Kb b w w') : Es w' b g cur be B x v1 v2 v3 C l' :=
  ⟨hp, h.blk.kp hk (by have := h.lb; omega), h.rows.kp hk (fun q e => by have := h.lb; have := h.lB; omega), h.lb, h.lg, h.lB, Nat.le_trans h.sz hk.size⟩
theorem Es.kn {w w' : World} {b g be B : Nat} {cur : Array Value} {x : En} {v1 v2 v3 : Value} {C : List Nat} {l : List Wd} (h : Es w b g cur be B x v1 v2 v3 C l) (hk : Kn w w') : Es w' b g cur be B x v1 v2 v3 C l := h.next (h.ps.kn hk) (Kn.kb hk b)
theorem Es.alloc {w : World} {b g be B : Nat} {cur : Array Value} {x : En} {v1 v2 v3 : Value} {C : List Nat} {l : List Wd} (h : Es w b g cur be B x v1 v2 v3 C l) (o : Obj) : Es (w.alloc o) b g cur be B x v1 v2 v3 C l := h.kn ((Kp.refl _ w).alloc o)
theorem Es.drew {w : World} {b g be B : Nat} {cur : Array Value} {x : En} {v1 v2 v3 : Value} {C : List Nat} {l : List Wd} (h : Es w b g cur be B x v1 v2 v3 C l) : Es w.drew b g cur be B x v1 v2 v3 C l := h.kn (Kp.refl _ w).drew
theorem Es.cells {w : World} {b g be B : Nat} {cur : Array Value} {x : En} {v1 v2 v3 : Value} {C : List Nat} {l : List Wd} (h : Es w b g cur be B x v1 v2 v3 C l) :
    w.cell? ⟨be, 0, none⟩ = some (.pointer (some ⟨b, 0, none⟩)) ∧ w.cell? ⟨be, 3, none⟩ = some v1 ∧ w.cell? ⟨be, 4, none⟩ = some v2 ∧ w.cell? ⟨be, 5, none⟩ = some v3 ∧ w.frozen? ⟨be, 3, none⟩ = false ∧ w.frozen? ⟨be, 4, none⟩ = false ∧ w.frozen? ⟨be, 5, none⟩ = false ∧ be < w.heap.size :=
  ⟨h.blk.cell 0, h.blk.cell 3, h.blk.cell 4, h.blk.cell 5, h.blk.frozen 3, h.blk.frozen 4, h.blk.frozen 5, h.blk.lt⟩
/-- Only the words' place, the object and what is new have turned. -/
abbrev Kd (b be B : Nat) (w w' : World) : Prop := Kp (fun k => k = b ∨ k = be ∨ B ≤ k) w w'
theorem Kp.kd {b be B : Nat} {w w' : World} (h : Kb b w w') : Kd b be B w w' := h.mono fun _ e _ => .inl e
theorem Kn.kd {b be B : Nat} {w w' : World} (h : Kn w w') : Kd b be B w w' := h.mono fun _ f _ => f.elim
theorem Kc.kd {b be B : Nat} {w w' : World} (h : Kc b B w w') : Kd b be B w w' := h.mono fun _ e _ => e.elim .inl fun h => .inr (.inr h)
/-- What an element of an enum leaves. -/
def EsK (w : World) (b g : Nat) (cur : Array Value) (be B : Nat) : En → List Wd → Value → World → Prop :=
  fun x l v w' => v = .tuple #[] ∧ (∃ v1 v2 v3 C, Es w' b g cur be B x v1 v2 v3 C l) ∧ Kd b be B w w'
section
variable {w : World} {b g : Nat} {cur : Array Value} {l : List Wd}
/-- expect with its words laid at once. -/
theorem exp_at (ss : List ByteArray) (cs : Array Value) (n : Nat) (hcs : cs = (ss.map Value.string).toArray) (hn : n = ss.length) (hss : ∀ s ∈ ss, s ≠ ⟨#[]⟩) (hlen : ss.length ≤ 1000) (h : Ps w b g cur l) :
    Calls Tryz.prog 97 #[.pointer (some ⟨b, 0, none⟩), .slice (some ⟨w.heap.size, 0, none⟩) n n] (w.alloc (.cells cs 9)) (PzQ (expP ss l) (Kb b w) fun _ l' v w' => v = .tuple #[] ∧ Ps w' b g cur l' ∧ Kb b w w') := by
  subst hcs hn
  have hb := h.lt
  have ha : Kb b w (w.alloc (.cells (ss.map Value.string).toArray 9)) := (Kp.refl _ w).alloc _
  refine (expect_any ss hss (h.alloc _) w.heap.size (Blk.new w 9 _) (by omega) hlen).mono ?_
  intro e w' hq
  cases hr : expP ss l with
  | no q c =>
    rw [hr] at hq
    exact ⟨hq.1, ha.trans hq.2⟩
  | ok u l' =>
    rw [hr] at hq
    obtain ⟨v, e1, e2, e3, e4⟩ := hq
    exact ⟨v, e1, e2, e3, ha.trans e4⟩
/-- A word kept in a variable beside an enum. -/
structure Ev (w0 w : World) (b g : Nat) (cur : Array Value) (be B : Nat) (x : En) (v1 v2 v3 : Value) (C : List Nat) (l : List Wd) (q : Nat) (y : Wd) : Prop where
  es : Es w b g cur be B x v1 v2 v3 C l
  kp : Kb b w0 w
  bl : Blk w q 73 #[.int .i64 y.k, .int .i64 y.p, .string y.t, .int .i64 y.n]
  qb : be < q
theorem Ev.next {w0 w w' : World} {be B : Nat} {x : En} {v1 v2 v3 : Value} {C : List Nat} {l' : List Wd} {q : Nat} {y : Wd} (h : Ev w0 w b g cur be B x v1 v2 v3 C l q y) (hp : Ps w' b g cur l') (hk : Kb b w w') : Ev w0 w' b g cur be B x v1 v2 v3 C l' q y :=
  ⟨h.es.next hp hk, h.kp.trans hk, h.bl.kp hk (by have := h.qb; have := h.es.lb; omega), h.qb⟩
theorem Ev.drew {w0 w : World} {be B : Nat} {x : En} {v1 v2 v3 : Value} {C : List Nat} {q : Nat} {y : Wd} (h : Ev w0 w b g cur be B x v1 v2 v3 C l q y) : Ev w0 w.drew b g cur be B x v1 v2 v3 C l q y := h.next (h.es.drew.ps) (Kp.refl _ w).drew
theorem Ev.alloc {w0 w : World} {be B : Nat} {x : En} {v1 v2 v3 : Value} {C : List Nat} {q : Nat} {y : Wd} (h : Ev w0 w b g cur be B x v1 v2 v3 C l q y) (o : Obj) : Ev w0 (w.alloc o) b g cur be B x v1 v2 v3 C l q y := h.next ((h.es.alloc o).ps) ((Kp.refl _ w).alloc o)
theorem Ev.put3 {w0 w : World} {be B : Nat} {x : En} {v1 v2 v3 : Value} {C : List Nat} {q : Nat} {y : Wd} (h : Ev w0 w b g cur be B x v1 v2 v3 C l q y) {k : Nat} (hb : b ≠ k) (hg : g ≠ k) (hbe : be ≠ k) (hq : q ≠ k)
    (hr : ∀ i, i ∈ owns [rwVl x.vals v1, rwSp x.rngs v2, rwTx x.nams v3] ∨ i ∈ C → i < k) (hk : w0.heap.size ≤ k) (u1 u2 u3 : Value) :
    Ev w0 (((w.setCell ⟨k, 0, none⟩ u1).setCell ⟨k, 1, none⟩ u2).setCell ⟨k, 2, none⟩ u3) b g cur be B x v1 v2 v3 C l q y :=
  ⟨⟨h.es.ps.kp (Kp.put3 (S := fun i => i = k) (Kp.refl _ w) (fun _ => rfl) _ _ _) hb hg, h.es.blk.stays (keep3 _ hbe _ _ _), h.es.rows.keep (by simp) (fun i hi => keep3 _ (by have := hr i hi; omega) _ _ _), h.es.lb, h.es.lg, h.es.lB, by simpa using h.es.sz⟩,
   h.kp.put3 (fun h => by omega) _ _ _, h.bl.stays (keep3 _ hq _ _ _), h.qb⟩
end
end
section
open Go.RowKit
set_option linter.unusedVariables false
set_option linter.unusedSimpArgs false

theorem Pz.and_ok {α β : Type} {r : Pz α} {f : α → List Wd → Pz β} {b : β} {l' : List Wd} (h : r.and f = .ok b l') : ∃ a l1, r = .ok a l1 ∧ f a l1 = .ok b l' := by
  cases r with
  | no p e => cases h
  | ok a l1 => exact ⟨a, l1, rfl, h⟩
theorem tail_le (l : List Wd) : l.tail.length ≤ l.length := by simp
theorem expP_len : ∀ (ss : List ByteArray) {l l' : List Wd} {u : Unit}, expP ss l = .ok u l' → l'.length ≤ l.length
  | [], l, l', u, h => by injection h with _ h; rw [h]; exact Nat.le_refl _
  | s :: ss, l, l', u, h => by
    rw [expP] at h
    split at h
    · have := expP_len ss h; have := tail_le l; omega
    · cases h
theorem roomP_ok {α : Type} {n most : Nat} {l : List Wd} {r : Pz α} {a : α} {l' : List Wd} (h : roomP n most l r = .ok a l') : r = .ok a l' := by
  unfold roomP at h
  split at h
  · cases h
  · exact h
theorem rngsF_len (max : Int) (sg : Bool) : ∀ (n : Nat) {a a' : List Sp} {l l' : List Wd}, rngsF max sg n a l = .ok a' l' → l'.length ≤ l.length
  | 0, a, a', l, l', h => by cases h
  | n + 1, a, a', l, l', h => by
    rw [rngsF] at h
    obtain ⟨x, l1, h1, h2⟩ := Pz.and_ok (roomP_ok h)
    have h3 := spanP_len h1
    split at h2
    · have := rngsF_len max sg n h2; have := tail_le l1; omega
    · injection h2 with _ h2; rw [← h2]; exact h3
theorem namsF_len : ∀ (n : Nat) {a a' : List Tx} {l l' : List Wd}, namsF n a l = .ok a' l' → l'.length ≤ l.length
  | 0, a, a', l, l', h => by cases h
  | n + 1, a, a', l, l', h => by
    rw [namsF] at h
    obtain ⟨x, l1, h1, h2⟩ := Pz.and_ok (roomP_ok h)
    have h3 := (litP_len h1).2
    have h4 := tail_le l
    subst h3
    split at h2
    · have := namsF_len n h2; have := tail_le l.tail; omega
    · injection h2 with _ h2; rw [← h2]; exact h4
theorem resP_len {max : Int} {sg : Bool} {a : List Sp} {b : List Tx} {r : List Sp × List Tx} {l l' : List Wd} (h : resP max sg a b l = .ok r l') : l'.length ≤ l.tail.length := by
  unfold resP at h
  split at h
  · obtain ⟨x, l1, h1, h2⟩ := Pz.and_ok h
    obtain ⟨u, l2, h3, h4⟩ := Pz.and_ok h2
    injection h4 with _ h4
    subst h4
    have := namsF_len _ h1; have := expP_len _ h3; omega
  · obtain ⟨x, l1, h1, h2⟩ := Pz.and_ok h
    obtain ⟨u, l2, h3, h4⟩ := Pz.and_ok h2
    injection h4 with _ h4
    subst h4
    have := rngsF_len _ _ _ h1; have := expP_len _ h3; omega
theorem valP_len {l l' : List Wd} {v : Vl} (h : valP l = .ok v l') : l'.length ≤ l.tail.length := by
  unfold valP at h
  obtain ⟨w, l1, h1, h⟩ := Pz.and_ok h
  obtain ⟨u, l2, h2, h⟩ := Pz.and_ok h
  obtain ⟨n, l3, h3, h⟩ := Pz.and_ok h
  obtain ⟨u4, l4, h4, h⟩ := Pz.and_ok h
  injection h with _ h
  subst h
  have e1 := (ofP_len h1).2
  subst e1
  have := expP_len _ h2; have := numP_len h3; have := expP_len _ h4; omega
theorem enS_len {x x' : En} {l l' : List Wd} (hl : Gd l) (h : enS x l = .ok x' l') : l'.length < l.length := by
  have hn := hl.len
  unfold enS at h
  split at h
  · injection h with _ h; rw [← h]; omega
  · split at h
    · obtain ⟨r, l1, h1, h2⟩ := Pz.and_ok h
      injection h2 with _ h2
      subst h2
      have := resP_len h1; omega
    · split at h
      · cases h
      · obtain ⟨v, l1, h1, h2⟩ := Pz.and_ok (roomP_ok h)
        injection h2 with _ h2
        subst h2
        have := valP_len h1; omega
end
section
open Go.RowKit
set_option linter.unusedVariables false
set_option linter.unusedSimpArgs false

section
variable {w : World} {b g : Nat} {cur : Array Value} {l : List Wd}
set_option maxRecDepth 100000 in
set_option maxHeartbeats 1000000 in
/-- Elements in braces: step reads one of them, of what Inv says of the world. -/
theorem block_le {σ : Type} (step : σ → List Wd → Pz σ) (Inv : World → σ → List Wd → Prop) (Fr : World → World → Prop) (hF1 : ∀ W W', Kb b W W' → Fr W W') (hF2 : ∀ U V W, Fr U V → Fr V W → Fr U W) (mb : Nat) (ov : Value)
    (hps : ∀ W s l, Inv W s l → Ps W b g cur l) (hnext : ∀ W W' s l l', Inv W s l → Ps W' b g cur l' → Kb b W W' → l'.length ≤ l.length → Inv W' s l')
    (hE : ∀ W s l, Inv W s l → ¬ sayW l = kShut → Calls Tryz.prog 102 #[.pointer (some ⟨b, 0, none⟩), .map (some mb), ov] W (PzQ (step s l) (Fr W) fun s' l' v w' => v = .tuple #[] ∧ Inv w' s' l' ∧ Fr W w' ∧ l'.length < l.length))
    (s : σ) (h : Inv w s l) : Calls Tryz.prog 200 #[.pointer (some ⟨b, 0, none⟩), .map (some mb), ov] w (PzQ (blkP step s l) (Fr w) fun s' l' v w' => v = .tuple #[] ∧ Inv w' s' l' ∧ Fr w w') := by
  obtain ⟨R, hR⟩ : ∃ R, R = blkP step s l := ⟨_, rfl⟩
  rw [← hR]
  unfold blkP at hR
  have HR := Lib.hid hR
  have H := Lib.hid h
  have HE := Lib.hid hE
  have HF1 := Lib.hid hF1
  have HF2 := Lib.hid hF2
  have HP := Lib.hid hps
  have HN := Lib.hid hnext
  have HX := Lib.hid (exp_at [kOpen] #[.string kOpen] 1 rfl rfl (by decide) (by decide) (hps _ _ _ h))
  clear hR h hE hps hnext hF1 hF2
  go_enter Tryz.func200, Tryz.ntmps200
  go_wp2_with fail
  refine HX.out.mono ?_
  intro e w1 hq
  cases hr : expP [kOpen] l with
  | no p c =>
    rw [hr] at hq
    obtain ⟨rfl, hk⟩ := hq
    have HK := Lib.hid hk
    have HR2 := Lib.hid (show R = .no p c by rw [HR.out, hr]; rfl)
    clear hk hr HR HX
    unfold Stp stopV
    go_wp2_with fail
    rw [HR2.out]
    exact ⟨rfl, rfl, HF1.out _ _ HK.out⟩
  | ok u l1 =>
    rw [hr] at hq
    obtain ⟨v, rfl, rfl, hp, hk⟩ := hq
    have hR2 := HR.out
    rw [hr] at hR2
    simp only [Pz.and] at hR2
    have HR2 := Lib.hid hR2
    have HI := Lib.hid (HN.out _ _ _ _ _ H.out hp hk (expP_len _ hr))
    have HK := Lib.hid (HF1.out _ _ hk)
    clear hk hr HR HX hp hR2 H
    go_wp2_with fail
    go_loopg [] (l1.length + 1) (fun gg wr => ∃ (n : Nat) (s' : σ) (l' : List Wd), gg = l'.length + 1 ∧ l'.length < n ∧ R = blkF step n s' l' ∧ Inv wr s' l' ∧ Fr w wr)
    case atStart => exact ⟨_, s, l1, rfl, Nat.lt_succ_self _, HR2.out, HI.out, HK.out⟩
    case round =>
      obtain ⟨n, s', l', rfl, hn, hfin, hinv, hkr⟩ := hrel
      obtain ⟨n, rfl⟩ : ∃ k, n = k + 1 := ⟨n - 1, by omega⟩
      rw [blkF] at hfin
      have HFIN := Lib.hid hfin
      have HI2 := Lib.hid hinv
      have HKR := Lib.hid hkr
      have HT := Lib.hid (takes_any (HP.out _ _ _ hinv) kShut (by decide))
      clear hfin hinv hkr HI HK HR2
      go_wp2_with fail
      refine HT.out.mono ?_
      rintro e w2 ⟨h1, hk2⟩
      have HK2 := Lib.hid (HF2.out _ _ _ HKR.out (HF1.out _ _ hk2))
      rcases h1 with ⟨hq, rfl, hp2, hg2⟩ | ⟨hq, rfl, hp2⟩
      · have HR3 := Lib.hid (show R = .ok s' l'.tail by rw [HFIN.out, if_pos hq])
        have HI3 := Lib.hid (HN.out _ _ _ _ _ HI2.out hp2 hk2 (tail_le _))
        clear HFIN hq hp2 hg2 hk2 HT HI2
        go_wp2_with fail
        rw [HR3.out]
        go_end0
        exact ⟨_, rfl, rfl, HI3.out, HK2.out⟩
      · have HI3 := HN.out _ _ _ _ _ HI2.out hp2 hk2 (Nat.le_refl _)
        have HC := Lib.hid (HE.out _ _ _ HI3 hq)
        have hR3 := HFIN.out
        rw [if_neg hq] at hR3
        have HR3 := Lib.hid hR3
        clear HFIN hq hp2 hk2 HT HI2 HI3 hR3
        go_wp2_with fail
        refine HC.out.mono ?_
        intro e w3 hq
        cases hr : step s' l' with
        | no p c =>
          rw [hr] at hq
          obtain ⟨rfl, hk⟩ := hq
          have HK3 := Lib.hid (HF2.out _ _ _ HK2.out hk)
          have HR4 := Lib.hid (show R = .no p c by rw [HR3.out, hr]; rfl)
          clear hk hr HR3 HC
          unfold Stp stopV
          go_wp2_with fail
          rw [HR4.out]
          exact ⟨rfl, rfl, HK3.out⟩
        | ok s2 l2 =>
          rw [hr] at hq
          obtain ⟨v, rfl, rfl, hinv, hk, hlt⟩ := hq
          have HK3 := Lib.hid (HF2.out _ _ _ HK2.out hk)
          have HI4 := Lib.hid hinv
          have HR4 := Lib.hid (show R = blkF step n s2 l2 by rw [HR3.out, hr]; rfl)
          clear hk hr HR3 HC hinv
          go_wp2_with fail
          go_roundg (l2.length + 1)
          case measure => omega
          case rel => exact ⟨n, s2, l2, rfl, by omega, HR4.out, HI4.out, HK3.out⟩
end
end
end Go.Proofs.YthmdaejlopjjoaaGreatDoor
